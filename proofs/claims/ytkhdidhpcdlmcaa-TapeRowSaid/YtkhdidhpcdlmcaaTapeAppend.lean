/- A tape's Append. -/
import Derived.Test.YtkhdidhpcdlmcaaTapeMem
import Derived.Lib.SliceRun
import Derived.Deep.QuietTactic
import Derived.BigQuiet
namespace Go.Proofs.Ytkhdidhpcdlmcaa
set_option maxRecDepth 100000
open Go.RowKit Go.Lib MM MF DM DK MY TM DP TP RN PL TF TR TQ BL FL
namespace TA
attribute [local go_sem] Oper.semAt_some
theorem sub_fits {a b c : Nat} (h : a + b = c) (hc : c < 4611686018427387904) : IntKind.u64.wrap ((c : Int) - (a : Int)) = (b : Int) := by unfold IntKind.wrap; simp [IntKind.bits, IntKind.signed]; omega
theorem add_fits {a b c : Nat} (h : a + b = c) (hc : c < 4611686018427387904) : IntKind.u64.wrap ((a : Int) + (b : Int)) = (c : Int) := by unfold IntKind.wrap; simp [IntKind.bits, IntKind.signed]; omega
theorem drawn_below (w : World) (n : Nat) : Below w.heap.size w (w.drewN n) := ⟨rfl, rfl, rfl, Nat.le_refl _, fun _ _ => rfl⟩
section
variable {w : World} {gT gR g gt N : Nat} {a : Int} {T : TS}
theorem full_walk (bn bs n : Nat) (h : Has w gT 80 (tcs gR g gt a N T)) (ho : T.Ok N) (hn : w.cell? ⟨bn, 0, none⟩ = some (.int .u64 n)) (hs : w.cell? ⟨bs, 0, none⟩ = some (.pointer (some ⟨gT, 0, none⟩))) :
    Calls Try.prog 52 #[.pointer (some ⟨bn, 0, none⟩), .pointer (some ⟨bs, 0, none⟩)] w fun e w' => e = .returned (.bool (decide (N * 128 - T.bs.length < n))) ∧ Below w.heap.size w w' := by
  obtain ⟨c0, c1, c2, c3, c4, c5, c6, c7, c8⟩ := tcs_cells h
  have h1 := ho.fits
  have h2 := ho.few
  have h3 := ho.ends
  have HS := Lib.hid (fun w h => size_walk w gT gR N (by omega) h)
  have e1 : IntKind.u64.wrap ((T.fin : Int) - (T.start : Int)) = (T.bs.length : Int) := sub_fits rfl (by omega)
  have e2 : IntKind.u64.wrap ((N : Int) * 128 - (T.bs.length : Int)) = ((N * 128 - T.bs.length : Nat) : Int) := by
    rw [show (N : Int) * 128 = ((N * 128 : Nat) : Int) by simp]
    exact sub_fits (by omega) (by omega)
  generalize N * 128 - T.bs.length = r at *
  generalize T.bs.length = k at *
  generalize T.fin = f at *
  generalize T.start = s at *
  clear h c0 c1 c2 c5 c7 c8 h1 h2 h3 ho
  go_enter Try.func52, Try.ntmps52
  go_wp2
  go_quiet ((go_at_call 53; exact Calls.quiet_of_same (HS.out _ c3)))
  go_wp2
  go_ret
  exact ⟨rfl, drawn_below w nq⟩
theorem space_walk (bn bs n : Nat) (h : Has w gT 80 (tcs gR g gt a N T)) (ho : T.Ok N) (hn : w.cell? ⟨bn, 0, none⟩ = some (.int .u64 n)) (hs : w.cell? ⟨bs, 0, none⟩ = some (.pointer (some ⟨gT, 0, none⟩))) :
    Calls Try.prog 54 #[.pointer (some ⟨bn, 0, none⟩), .pointer (some ⟨bs, 0, none⟩)] w fun e w' => e = .returned (.bool (decide (1099511627776 - T.fin < n))) ∧ Below w.heap.size w w' := by
  obtain ⟨c0, c1, c2, c3, c4, c5, c6, c7, c8⟩ := tcs_cells h
  have h3 := ho.ends
  have e2 : IntKind.u64.wrap (1099511627776 - (T.fin : Int)) = ((1099511627776 - T.fin : Nat) : Int) := by
    rw [show (1099511627776 : Int) = ((1099511627776 : Nat) : Int) by rfl]
    exact sub_fits (by omega) (by omega)
  generalize 1099511627776 - T.fin = r at *
  generalize T.fin = f at *
  clear h c0 c1 c2 c4 c3 c5 c7 c8 h3 ho
  go_enter Try.func54, Try.ntmps54
  go_wp2
  go_quiet (fail)
  go_wp2
  go_ret
  exact ⟨rfl, drawn_below w nq⟩
end
theorem calls_of_marks {f : FuncId} {fn : Func} {c : Code} {args : Array Value} {w : World} {R : Ending → World → Prop} (hf : Try.prog.funcs[f]? = some fn) (hb : fn.body = some c)
    (h : c.wp Try.prog (bodyPostM Fence.wide 9 Try.prog fn R) { tmps := args ++ Array.replicate (fn.ntmps - args.size) undef, defers := [] } w) : Calls Try.prog f args w R :=
  callsIn_wide.1 (callsIn_of_wp_marks (n := 9) hf hb trivial (wpIn_wide.2 h) rfl)
/-- A return, with no mark. -/
theorem post_ret {fn : Func} {R : Ending → World → Prop} {a : Act} {w : World} {v : Value} (hd : a.defers = []) (hv : (results fn a.tmps).run Try.prog w = .ok v w) (h : R (.returned v) w) : bodyPostM Fence.wide 9 Try.prog fn R .ret a w := by
  show LeavesInM _ _ _ _ _ _ _ _ _
  rw [hd]
  exact ⟨v, hv, h⟩
theorem post_mark {fn : Func} {R : Ending → World → Prop} {a : Act} {w : World} {v : Value} {D : Nat} (hd : a.defers = [{ target := .collected D, args := #[] }]) (hK : w.heap[D]? = some (.deferred (some [])))
    (hv : (results fn a.tmps).run Try.prog (w.putObj D (.deferred none)) = .ok v (w.putObj D (.deferred none))) (h : R (.returned v) (w.putObj D (.deferred none))) : bodyPostM Fence.wide 9 Try.prog fn R .ret a w := by
  show LeavesInM _ _ _ _ _ _ _ _ _
  rw [hd]
  exact ⟨by simp, .inl ⟨_, _, rfl, run_takeDeferred hK, v, hv, h⟩⟩
theorem post_mark_end {fn : Func} {R : Ending → World → Prop} {a : Act} {w : World} {v : Value} {D : Nat} (hd : a.defers = [{ target := .collected D, args := #[] }]) (hK : w.heap[D]? = some (.deferred (some [])))
    (hv : (results fn a.tmps).run Try.prog (w.putObj D (.deferred none)) = .ok v (w.putObj D (.deferred none))) (h : R (.returned v) (w.putObj D (.deferred none))) : bodyPostM Fence.wide 9 Try.prog fn R .normal a w := by
  show LeavesInM _ _ _ _ _ _ _ _ _
  rw [hd]
  exact ⟨by simp, .inl ⟨_, _, rfl, run_takeDeferred hK, v, hv, h⟩⟩
/-! ### What abides the law's own blocks -/
theorem own_block {A B : World} {row : Option Nat} {n b : Nat} {cs : Array Value} {t : TypeId} {f : Nat × Nat} (h : A.heap[b]? = some (.cells cs t f)) (hg : A.grownBy B row) (hr : ∀ r, row = some r → n ≤ r ∧ ∃ o : Obj, A.heap[r]? = some o ∧ o.isCells = false) : B.heap[b]? = A.heap[b]? := by
  refine hg.block b (Array.getElem?_eq_some_iff.1 h).1 ?_
  intro e
  obtain ⟨_, o, ho, hc⟩ := hr b e.symm
  rw [h] at ho
  cases ho
  cases hc
theorem own_has {A B : World} {row : Option Nat} {n b : Nat} {cs : List Value} {t : TypeId} (h : Has A b t cs) (hg : A.grownBy B row) (hr : ∀ r, row = some r → n ≤ r ∧ ∃ o : Obj, A.heap[r]? = some o ∧ o.isCells = false) : Has B b t cs :=
  (own_block h hg hr).trans h
theorem own_row {A B : World} {row : Option Nat} {n b : Nat} {cs : List Value} {t : TypeId} (h : Row A b t cs) (hg : A.grownBy B row) (hr : ∀ r, row = some r → n ≤ r ∧ ∃ o : Obj, A.heap[r]? = some o ∧ o.isCells = false) : Row B b t cs := by
  obtain ⟨r, h⟩ := h
  exact ⟨r, (own_block h hg hr).trans h⟩
theorem own_fr {w A B : World} {row : Option Nat} {n : Nat} {fs : List Nat} (h : Fr w A fs) (hn : w.heap.size ≤ n) (hg : A.grownBy B row) (hr : ∀ r, row = some r → n ≤ r ∧ ∃ o : Obj, A.heap[r]? = some o ∧ o.isCells = false) : Fr w B fs :=
  ⟨hg.os.trans h.os, hg.tape.trans h.tape, hg.output.trans h.output, Nat.le_trans h.size hg.size, fun k hk hn' => (hg.block k (Nat.lt_of_lt_of_le hk h.size) (fun e => by have := (hr k e.symm).1; omega)).trans (h.block k hk hn')⟩
theorem own_mark {A : World} {D : Nat} (h : A.heap[D]? = some (.deferred (some []))) : ∀ r, some D = some r → D ≤ r ∧ ∃ o : Obj, A.heap[r]? = some o ∧ o.isCells = false := fun r e => by cases e; exact ⟨Nat.le_refl _, _, h, rfl⟩
section
variable {w : World} {gT gR g gt N : Nat} {a : Int} {T : TS}
def appE (N : Nat) (T : TS) (n : Nat) : Int := firstOf [if T.over then 8 else 0, if decide (N * 128 - T.bs.length < n) then 7 else 0, if decide (1099511627776 - T.fin < n) then 10 else 0]
theorem ent_full : Ent 52 := enters_of Try.func52 (by kernel_rfl) rfl
theorem ent_space : Ent 54 := enters_of Try.func54 (by kernel_rfl) rfl
theorem append_asks {w0 y1 y2 y3 : World} {ga bn bt e1 f1 e2 f2 n : Nat} {Bs : List (World → List Nat → Prop)} (hO : T.Ok N)
    (A3 : All w0 y3 (Bl w0.heap.size ga 51 [.func (.func 46) #[.pointer (some ⟨gT, 0, none⟩)] #[], .func (.func 107) #[] #[.pointer (some ⟨f1, 0, none⟩), .pointer (some ⟨e1, 0, none⟩)], .func (.func 107) #[] #[.pointer (some ⟨f2, 0, none⟩), .pointer (some ⟨e2, 0, none⟩)]] :: Bs))
    (hT : Has y3 gT 80 (tcs gR g gt a N T)) (mn : Bl w0.heap.size bn 30 [.int .u64 n] ∈ Bs) (mt : Bl w0.heap.size bt 26 [.pointer (some ⟨gT, 0, none⟩)] ∈ Bs)
    (p1 : y1.cell? ⟨e1, 0, none⟩ = some (.int .i64 7)) (q1 : y1.cell? ⟨f1, 0, none⟩ = some (.func (.func 52) #[] #[.pointer (some ⟨bn, 0, none⟩), .pointer (some ⟨bt, 0, none⟩)])) (b1 : Below y1.heap.size y1 y3)
    (p2 : y2.cell? ⟨e2, 0, none⟩ = some (.int .i64 10)) (q2 : y2.cell? ⟨f2, 0, none⟩ = some (.func (.func 54) #[] #[.pointer (some ⟨bn, 0, none⟩), .pointer (some ⟨bt, 0, none⟩)])) (b2 : Below y2.heap.size y2 y3) :
    Calls Try.prog 38 #[.slice (some ⟨ga, 0, none⟩) 3 3] y3 fun e w' => e = .returned (.int .i64 (appE N T n)) ∧ Below y3.heap.size y3 w' := by
  refine first_pure y3 ga 3 3 (by decide) (by decide) _ [if T.over then 8 else 0, if decide (N * 128 - T.bs.length < n) then 7 else 0, if decide (1099511627776 - T.fin < n) then 10 else 0] rfl rfl _ (all_has A3 (List.mem_cons_self ..)) ?_
  intro i W v c b hv hc
  have AW := A3.below b
  have hTW := hT.under b hT.lt
  have hn := (all_has AW (g := bn) (t := 30) (cs := [.int .u64 n]) (by simp [mn])).cell 0
  have ht := (all_has AW (g := bt) (t := 26) (cs := [.pointer (some ⟨gT, 0, none⟩)]) (by simp [mt])).cell 0
  match i, hv, hc with
  | 0, hv, hc =>
    simp only [List.getElem?_cons_zero, Option.some.injEq] at hv hc
    subst hv hc
    exact asks_gone hTW
  | 1, hv, hc =>
    simp only [List.getElem?_cons_zero, List.getElem?_cons_succ, Option.some.injEq] at hv hc
    subst hv hc
    have b' := b1.trans (b.mono b1.size)
    exact asks_when ent_full ((b'.cell (p := ⟨e1, 0, none⟩) (cell_lt p1)).trans p1) ((b'.cell (p := ⟨f1, 0, none⟩) (cell_lt q1)).trans q1) (full_walk bn bt n hTW hO hn ht)
  | 2, hv, hc =>
    simp only [List.getElem?_cons_zero, List.getElem?_cons_succ, Option.some.injEq] at hv hc
    subst hv hc
    have b' := b2.trans (b.mono b2.size)
    exact asks_when ent_space ((b'.cell (p := ⟨e2, 0, none⟩) (cell_lt p2)).trans p2) ((b'.cell (p := ⟨f2, 0, none⟩) (cell_lt q2)).trans q2) (space_walk bn bt n hTW hO hn ht)
  | i + 3, hv, hc => simp at hv
theorem appE_zero {N n : Nat} {T : TS} (h : appE N T n = 0) : T.over = false ∧ n ≤ N * 128 - T.bs.length ∧ n ≤ 1099511627776 - T.fin := by
  unfold appE firstOf at h
  cases ho : T.over with
  | true => simp [ho] at h
  | false =>
    rw [ho] at h
    by_cases h1 : N * 128 - T.bs.length < n
    · simp [firstOf, h1] at h
    · by_cases h2 : 1099511627776 - T.fin < n
      · simp [firstOf, h1, h2] at h
      · exact ⟨rfl, by omega, by omega⟩
/-- What a round of Append keeps. -/
structure AppI (w : World) (gT gR g gt N : Nat) (a : Int) (T : TS) (bf bt2 bs2 bn bs bt f fz : Nat) (l : List UInt8) (k : Nat) (W : World) : Prop where
  bf : Has W bf 30 [.int .u64 f]
  bt2 : Has W bt2 30 [.int .u64 fz]
  bs2 : Has W bs2 26 [.pointer (some ⟨gT, 0, none⟩)]
  bn : Has W bn 30 [.int .u64 l.length]
  bs : Has W bs 9 [.string ⟨(l.drop k).toArray⟩]
  bt : Has W bt 26 [.pointer (some ⟨gT, 0, none⟩)]
  tape : Has W gT 80 (tcs gR g gt a N T)
  rng : Row W gR 126 (byteCells (ring N T.start (T.bs ++ l.take k)))
  fr : Fr w W [gT, gR]
theorem AppI.own {w A B : World} {gT gR g gt N bf bt2 bs2 bn bs bt f fz k n : Nat} {a : Int} {T : TS} {l : List UInt8} {row : Option Nat} (i : AppI w gT gR g gt N a T bf bt2 bs2 bn bs bt f fz l k A) (hn : w.heap.size ≤ n) (hg : A.grownBy B row)
    (hr : ∀ r, row = some r → n ≤ r ∧ ∃ o : Obj, A.heap[r]? = some o ∧ o.isCells = false) : AppI w gT gR g gt N a T bf bt2 bs2 bn bs bt f fz l k B :=
  ⟨own_has i.bf hg hr, own_has i.bt2 hg hr, own_has i.bs2 hg hr, own_has i.bn hg hr, own_has i.bs hg hr, own_has i.bt hg hr, own_has i.tape hg hr, own_row i.rng hg hr, own_fr i.fr hn hg hr⟩
/-- 'copy(dst, s)', s longer than dst. -/
theorem run_copy_long {w : World} (dT sT ty elem : TypeId) (hu : Try.prog.underlying dT = some (.slice elem)) (hs : (Try.prog.info? elem).map (·.size) = some 1) (g off dLen dCap : Nat) (l : List UInt8) (t : TypeId) (xs : List Value) (hr : Row w g t xs)
    (hle : dLen ≤ l.length) (hl : off + dLen ≤ xs.length) :
    ∃ w', (Builtin.copy_ #[dT, sT] ty #[.slice (some ⟨g, off, none⟩) dLen dCap, .string ⟨l.toArray⟩]).run Try.prog w = .ok (goInt dLen) w' ∧ Row w' g t (splice xs off (byteCells (l.take dLen))) ∧ Fr w w' [g] := by
  have ht : (l.take dLen).length = dLen := by rw [List.length_take]; omega
  obtain ⟨w', h1, h2, h3⟩ := run_copy_text (P := Try.prog) (w := w) dT sT ty elem hu hs g off dLen dCap (l.take dLen) t xs hr (by omega) (by omega)
  rw [ht] at h1
  refine ⟨w', ?_, h2, h3⟩
  rw [← h1]
  have e : Nat.min (⟨l.toArray⟩ : ByteArray).size dLen = Nat.min (⟨(l.take dLen).toArray⟩ : ByteArray).size dLen := by
    show Nat.min l.length dLen = Nat.min (l.take dLen).length dLen
    rw [ht]
    exact (Nat.min_eq_right hle).trans (Nat.min_eq_right (Nat.le_refl _)).symm
  cases hq : Try.prog.info? elem with
  | none => simp [hq] at hs
  | some i =>
    simp [Builtin.copy_, run_underlying hu, Builtin.lenOf, Builtin.firstCells, sizeOf, typeInfo, hq, e]
    rw [show Nat.min (⟨(l.take dLen).toArray⟩ : ByteArray).size dLen = dLen from by show Nat.min (l.take dLen).length dLen = dLen; rw [ht]; exact Nat.min_self _, List.take_take, Nat.min_self]
theorem keeps_fr {B : Nat} {W W' : World} {fs : List Nat} (h : Fr W W' fs) (hc : ∀ x ∈ fs, ∃ cs t f, W.heap[x]? = some (.cells cs t f)) : KeepsFrom B W W' :=
  ⟨h.size, fun k o _ hk ho => (h.block k (Array.getElem?_eq_some_iff.1 hk).1 (fun hm => by
    obtain ⟨cs, t, f, e⟩ := hc k hm
    rw [e] at hk
    cases hk
    cases ho)).trans hk⟩
theorem cells_splice (r v : List UInt8) (q n : Nat) (hv : v.length = n) : splice (byteCells r) q (byteCells v) = byteCells (r.take q ++ v ++ r.drop (q + n)) := by
  subst hv
  unfold splice byteCells
  simp
/-- A round of Append. -/
theorem AppI.step {w W W2 : World} {gT gR g gt N bf bt2 bs2 bn bs bt f fz k c : Nat} {a : Int} {T : TS} {l : List UInt8} (i : AppI w gT gR g gt N a T bf bt2 bs2 bn bs bt f fz l k W) (hbs : w.heap.size ≤ bs) (hf : f = T.fin) (hk : k + c ≤ l.length) (hn : T.bs.length + l.length ≤ N * 128) (hq : (f + k) % (N * 128) + c ≤ N * 128)
    (h2 : Row W2 gR 126 (splice (byteCells (ring N T.start (T.bs ++ l.take k))) ((f + k) % (N * 128)) (byteCells ((l.drop k).take c)))) (h3 : Fr W W2 [gR]) :
    AppI w gT gR g gt N a T bf bt2 bs2 bn bs bt f fz l (k + c) (W2.setCell ⟨bs, 0, none⟩ (.string ⟨(l.drop (k + c)).toArray⟩)) ∧ Fr W (W2.setCell ⟨bs, 0, none⟩ (.string ⟨(l.drop (k + c)).toArray⟩)) [gR, bs] := by
  have nR : ∀ {b : Nat} {t : TypeId} {cs : List Value}, Has W b t cs → t ≠ 126 → b ∉ [gR] := fun h ht hm => by
    rw [List.mem_singleton] at hm
    exact has_ne h i.rng ht hm
  have nb : ∀ {b : Nat} {t : TypeId} {cs : List Value}, Has W b t cs → t ≠ 9 → b ≠ (⟨bs, 0, none⟩ : Addr).block := fun h ht => has_ne h (Row.of_has i.bs) ht
  have hRs : gR ≠ bs := fun e => by
    have := has_ne i.bs i.rng (by decide)
    exact this e.symm
  have fr2 : Fr W (W2.setCell ⟨bs, 0, none⟩ (.string ⟨(l.drop (k + c)).toArray⟩)) [gR, bs] := (h3.more (fun x hx _ => by simp at hx; simp [hx])).setCell (.inl (by simp)) _
  refine ⟨⟨?_, ?_, ?_, ?_, ?_, ?_, ?_, ?_, ?_⟩, fr2⟩
  · exact (h3.has i.bf (nR i.bf (by decide))).far (nb i.bf (by decide)) _
  · exact (h3.has i.bt2 (nR i.bt2 (by decide))).far (nb i.bt2 (by decide)) _
  · exact (h3.has i.bs2 (nR i.bs2 (by decide))).far (nb i.bs2 (by decide)) _
  · exact (h3.has i.bn (nR i.bn (by decide))).far (nb i.bn (by decide)) _
  · exact (h3.has i.bs (nR i.bs (by decide))).put 0 _
  · exact (h3.has i.bt (nR i.bt (by decide))).far (nb i.bt (by decide)) _
  · exact (h3.has i.tape (nR i.tape (by decide))).far (nb i.tape (by decide)) _
  · have hlen : (T.bs ++ l.take k).length = T.bs.length + k := by simp; omega
    have hv : ((l.drop k).take c).length = c := by simp; omega
    have e0 : T.start + (T.bs ++ l.take k).length = f + k := by rw [hlen, hf]; unfold TS.fin; omega
    have hr := ring_append (n := c) (vs := (l.drop k).take c) (ring_is N T.start (T.bs ++ l.take k)) hv (by rw [hlen]; omega) (by rw [e0]; exact hq)
    rw [e0] at hr
    have e1 : T.bs ++ l.take k ++ (l.drop k).take c = T.bs ++ l.take (k + c) := by rw [List.append_assoc, List.take_add]
    rw [e1] at hr
    rw [cells_splice _ _ _ c hv, ring_of hr] at h2
    exact h2.of_block (Below.heap_setCell W2 _ _ _ hRs)
  · exact i.fr.trans fr2 (fun x hx => by
      simp only [List.mem_cons, List.not_mem_nil, or_false] at hx
      rcases hx with rfl | rfl
      · exact .inl (by simp)
      · exact .inr hbs)
theorem mark_ne {W : World} {D b : Nat} {t : TypeId} {cs : List Value} (h : Row W b t cs) (hK : W.heap[D]? = some (.deferred (some []))) : b ≠ D := by
  rintro rfl
  obtain ⟨r, h⟩ := h
  rw [h] at hK
  cases hK
theorem AppI.ends {w W : World} {gT gR g gt N bf bt2 bs2 bn bs bt f fz D : Nat} {a : Int} {T : TS} {l : List UInt8} (i : AppI w gT gR g gt N a T bf bt2 bs2 bn bs bt f fz l l.length W) (hD : w.heap.size ≤ D) (hK : W.heap[D]? = some (.deferred (some []))) (hf : f = T.fin) :
    (W.setCell ⟨gT, 6, none⟩ (.int .u64 ((f : Int) + (l.length : Int)))).drew.heap[D]? = some (.deferred (some [])) ∧
    Has ((W.setCell ⟨gT, 6, none⟩ (.int .u64 ((f : Int) + (l.length : Int)))).drew.putObj D (.deferred none)) gT 80 (tcs gR g gt a N { T with bs := T.bs ++ l }) ∧
    Row ((W.setCell ⟨gT, 6, none⟩ (.int .u64 ((f : Int) + (l.length : Int)))).drew.putObj D (.deferred none)) gR 126 (byteCells (ring N T.start (T.bs ++ l))) ∧
    Fr w ((W.setCell ⟨gT, 6, none⟩ (.int .u64 ((f : Int) + (l.length : Int)))).drew.putObj D (.deferred none)) [gT, gR] := by
  have n1 := mark_ne (Row.of_has i.tape) hK
  have n2 := mark_ne i.rng hK
  have n3 : gR ≠ gT := fun e => has_ne i.tape i.rng (by decide) e.symm
  have h6 := i.tape.put 6 (.int .u64 ((f : Int) + (l.length : Int)))
  have e6 : (tcs gR g gt a N T).set 6 (.int .u64 ((f : Int) + (l.length : Int))) = tcs gR g gt a N { T with bs := T.bs ++ l } := by
    have e : (f : Int) + (l.length : Int) = ((({ T with bs := T.bs ++ l } : TS).fin : Nat) : Int) := by
      rw [hf]
      show _ = ((T.start + (T.bs ++ l).length : Nat) : Int)
      rw [List.length_append]
      unfold TS.fin
      omega
    rw [e]
    rfl
  rw [e6] at h6
  have fr6 : Fr w (W.setCell ⟨gT, 6, none⟩ (.int .u64 ((f : Int) + (l.length : Int)))) [gT, gR] := i.fr.setCell (.inl (by simp)) _
  refine ⟨(Below.heap_setCell W _ _ D (Ne.symm n1)).trans hK, (World.putObj_heap_other n1).trans h6, ?_, ?_⟩
  · have hr := i.rng
    rw [List.take_length] at hr
    exact hr.of_block ((World.putObj_heap_other n2).trans (Below.heap_setCell W _ _ gR n3))
  · refine own_fr (n := w.heap.size) (A := (W.setCell ⟨gT, 6, none⟩ (.int .u64 ((f : Int) + (l.length : Int)))).drew) fr6.drew (Nat.le_refl _) (grownBy_putObj' _ D _) ?_
    intro r e
    cases e
    exact ⟨hD, _, (Below.heap_setCell W _ _ D (Ne.symm n1)).trans hK, rfl⟩
theorem append_walk (hT : Has w gT 80 (tcs gR g gt a N T)) (hR : Row w gR 126 (byteCells (ring N T.start T.bs))) (hO : T.Ok N) (l : List UInt8) (hl : l.length < 4611686018427387904) :
    Calls Try.prog 15 #[.pointer (some ⟨gT, 0, none⟩), .string ⟨l.toArray⟩] w fun e w' => ∃ c : Int, c = appE N T l.length ∧ e = .returned (.int .i64 c) ∧
      ((c ≠ 0 ∧ Below w.heap.size w w') ∨ (c = 0 ∧ Has w' gT 80 (tcs gR g gt a N { T with bs := T.bs ++ l }) ∧ Row w' gR 126 (byteCells (ring N T.start (T.bs ++ l))) ∧ Fr w w' [gT, gR])) := by
  obtain ⟨w0, hw0, hA⟩ : ∃ w0, Hid (w0 = w) ∧ All w0 w [] := ⟨w, Lib.hid rfl, All.start w⟩
  have hA3 := bl_new (bl_new (bl_new hA 26 [.pointer (some ⟨gT, 0, none⟩)]) 9 [.string ⟨l.toArray⟩]) 30 [.int .u64 l.length]
  simp only [World.size_alloc] at hA3
  refine calls_of_marks Try.func15 rfl ?_
  simp only [Try.ntmps15, List.size_toArray, List.length_cons, List.length_nil, Nat.reduceAdd, Nat.reduceSub, Array.replicate_succ, Array.replicate_zero, List.push_toArray, List.append_toArray, List.nil_append, List.cons_append]
  go_wp2
  change All w0 (((w.alloc (Obj.cells #[Value.pointer (some { block := gT, off := 0 })] 26)).alloc (Obj.cells #[Value.string { data := l.toArray }] 9)).alloc (Obj.cells #[Value.int IntKind.u64 l.length] 30)) _ at hA3
  generalize (((w.alloc (Obj.cells #[Value.pointer (some { block := gT, off := 0 })] 26)).alloc (Obj.cells #[Value.string { data := l.toArray }] 9)).alloc (Obj.cells #[Value.int IntKind.u64 l.length] 30)) = w1 at *
  obtain ⟨bt, ebt⟩ : ∃ bt, bt = w.heap.size := ⟨_, rfl⟩
  obtain ⟨bs, ebs⟩ : ∃ bs, bs = w.heap.size + 1 := ⟨_, rfl⟩
  obtain ⟨bn, ebn⟩ : ∃ bn, bn = w.heap.size + 1 + 1 := ⟨_, rfl⟩
  rw [← ebn, ← ebs, ← ebt] at hA3 ⊢
  clear ebn ebs ebt
  have xt := (all_has hA3 (g := bt) (t := 26) (cs := [.pointer (some ⟨gT, 0, none⟩)]) (by simp)).cell 0
  refine wp_region_noPanic (wp_region_held_drew (S := fun w' => w'.cell? ⟨bt, 0, none⟩ = some (.pointer (some ⟨gT, 0, none⟩))) (by kernel_rfl) xt (fun hS => ?_))
  refine wpAnyH_take (i := 0) (v := (.pointer (some ⟨gT, 0, none⟩))) (lit rfl) (by kernel_rfl) (by kernel_rfl) (by kernel_rfl) (fun _ _ _ h => h) (Or.inl ⟨by rfl, fun w hw => by have hc := hw; go_simp⟩) hS ?_
  simp only [Act.put, List.setIfInBounds_toArray, List.set_cons_zero, List.set_cons_succ]
  refine wpAnyH_take (i := 1) (v := (.func (.func 46) #[.pointer (some ⟨gT, 0, none⟩)] #[])) (lit rfl) (by kernel_rfl) (by kernel_rfl) (by kernel_rfl) (fun _ _ _ h => h) (Or.inl ⟨by rfl, fun w _ => by go_simp⟩) hS ?_
  simp only [Act.put, List.setIfInBounds_toArray, List.set_cons_zero, List.set_cons_succ]
  refine wpAnyH_take (i := 2) (v := (.func (.func 52) #[] #[.pointer (some ⟨bn, 0, none⟩), .pointer (some ⟨bt, 0, none⟩)])) (lit rfl) (by kernel_rfl) (by kernel_rfl) (by kernel_rfl) (fun _ _ _ h => h) (Or.inl ⟨by rfl, fun w _ => by go_simp⟩) hS ?_
  simp only [Act.put, List.setIfInBounds_toArray, List.set_cons_zero, List.set_cons_succ]
  refine wpAnyH_take (i := 4) (v := (.func (.func 54) #[] #[.pointer (some ⟨bn, 0, none⟩), .pointer (some ⟨bt, 0, none⟩)])) (lit rfl) (by kernel_rfl) (by kernel_rfl) (by kernel_rfl) (fun _ _ _ h => h) (Or.inl ⟨by rfl, fun w _ => by go_simp⟩) hS ?_
  simp only [Act.put, List.setIfInBounds_toArray, List.set_cons_zero, List.set_cons_succ]
  refine wpAnyH_ready (rs := [3]) (by kernel_rfl) (by simp) (AllReadyH.cons (lit rfl) (fun K hK => ?_) AllReadyH.nil)
  go_simp
  go_wp2_with (go_at_call 47; refine (when_walk _ _ _ _ _).mono ?_; rintro e y1 ⟨e1, f1, rfl, p1, q1, b1, _, _⟩)
  have A1 := hA3.drew.below b1
  have x1 := (all_has A1 (g := bt) (t := 26) (cs := [.pointer (some ⟨gT, 0, none⟩)]) (by simp)).cell 0
  refine hK.out _ _ x1 (fun _ => ?_)
  clear hK K
  refine wpAnyH_ready (rs := [5]) (by kernel_rfl) (by simp) (AllReadyH.cons (lit rfl) (fun K hK => ?_) AllReadyH.nil)
  go_simp
  go_wp2_with (go_at_call 47; refine (when_walk _ _ _ _ _).mono ?_; rintro e y2 ⟨e2, f2, rfl, p2, q2, b2, _, _⟩)
  have A2 := A1.below b2
  have x2 := (all_has A2 (g := bt) (t := 26) (cs := [.pointer (some ⟨gT, 0, none⟩)]) (by simp)).cell 0
  refine hK.out _ _ x2 (fun _ => ?_)
  clear hK K
  refine wpAnyH_ready (rs := [6]) (by kernel_rfl) (by simp) (AllReadyH.cons (lit rfl) (fun K hK => ?_) AllReadyH.nil)
  go_simp
  go_wp2
  have A3 := bl_new A2 51 [.func (.func 46) #[.pointer (some ⟨gT, 0, none⟩)] #[], .func (.func 107) #[] #[.pointer (some ⟨f1, 0, none⟩), .pointer (some ⟨e1, 0, none⟩)], .func (.func 107) #[] #[.pointer (some ⟨f2, 0, none⟩), .pointer (some ⟨e2, 0, none⟩)]]
  change All w0 (y2.alloc (.cells #[.func (.func 46) #[.pointer (some ⟨gT, 0, none⟩)] #[], .func (.func 107) #[] #[.pointer (some ⟨f1, 0, none⟩), .pointer (some ⟨e1, 0, none⟩)], .func (.func 107) #[] #[.pointer (some ⟨f2, 0, none⟩), .pointer (some ⟨e2, 0, none⟩)]] 51)) _ at A3
  have b3 : Below y2.heap.size y2 (y2.alloc (.cells #[.func (.func 46) #[.pointer (some ⟨gT, 0, none⟩)] #[], .func (.func 107) #[] #[.pointer (some ⟨f1, 0, none⟩), .pointer (some ⟨e1, 0, none⟩)], .func (.func 107) #[] #[.pointer (some ⟨f2, 0, none⟩), .pointer (some ⟨e2, 0, none⟩)]] 51)) := (Below.refl _ _).alloc (Nat.le_refl _) _
  generalize (y2.alloc (.cells #[.func (.func 46) #[.pointer (some ⟨gT, 0, none⟩)] #[], .func (.func 107) #[] #[.pointer (some ⟨f1, 0, none⟩), .pointer (some ⟨e1, 0, none⟩)], .func (.func 107) #[] #[.pointer (some ⟨f2, 0, none⟩), .pointer (some ⟨e2, 0, none⟩)]] 51)) = y3 at *
  generalize y2.heap.size = ga at A3 ⊢
  have x3 := (all_has A3 (g := bt) (t := 26) (cs := [.pointer (some ⟨gT, 0, none⟩)]) (by simp)).cell 0
  refine hK.out _ _ x3 (fun _ => ?_)
  clear hK K
  have b13 : Below y1.heap.size y1 y3 := b2.trans (b3.mono b2.size)
  have u3 := A3.under
  rw [hw0.out] at u3
  have HF := Lib.hid (append_asks hO A3 (hT.under u3 hT.lt) (n := l.length) (by simp) (by simp) p1 q1 b13 p2 q2 b3)
  refine wpAnyH_ready (rs := [7]) (by kernel_rfl) (by simp) (AllReadyH.cons (lit rfl) (fun K hK => ?_) AllReadyH.nil)
  go_simp
  go_wp2_with (go_at_call 38; refine HF.out.mono ?_; rintro e y4 ⟨rfl, b4⟩)
  have A4 := (A3.below b4).tail
  have x4 := (all_has A4 (g := bt) (t := 26) (cs := [.pointer (some ⟨gT, 0, none⟩)]) (by simp)).cell 0
  refine hK.out _ _ x4 (fun _ => ?_)
  clear hK K
  refine wpAnyH_ready (rs := [8]) (by kernel_rfl) (by simp) (AllReadyH.cons (lit rfl) (fun K hK => ?_) AllReadyH.nil)
  go_simp
  refine hK.out _ _ x4 (fun _ => ?_)
  clear hK K
  refine wpAnyH_done (by kernel_rfl) (NoPanic.normal ?_) _
  clear HF b4 b13 b3 x3 A3 A2 A1 x2 x1 b2 b1 p1 p2 q1 q2 hS xt hA3
  generalize hce : appE N T l.length = ce at *
  by_cases h0 : ce = 0
  · subst h0
    have u4 := A4.under
    rw [hw0.out] at u4
    have hT4 := hT.under u4 hT.lt
    obtain ⟨f, hf⟩ : ∃ f, f = T.fin := ⟨_, rfl⟩
    have c6 : y4.cell? ⟨gT, 6, none⟩ = some (.int .u64 f) := by rw [hf]; exact hT4.cell 6
    have n4 : y4.cell? ⟨bn, 0, none⟩ = some (.int .u64 l.length) := (all_has A4 (g := bn) (t := 30) (cs := [.int .u64 l.length]) (by simp)).cell 0
    have x4' : y4.cell? ⟨bt, 0, none⟩ = some (.pointer (some ⟨gT, 0, none⟩)) := x4
    obtain ⟨hz1, hz2, hz3⟩ := appE_zero hce
    have hfin := hO.ends
    have hfit := hO.fits
    have hfew := hO.few
    obtain ⟨fz, hf2⟩ : ∃ fz, fz = f + l.length := ⟨_, rfl⟩
    have e5 : IntKind.u64.wrap ((f : Int) + (l.length : Int)) = (fz : Int) := add_fits hf2.symm (by omega)
    have HN := Lib.hid (⟨hf, hf2, hz2, hz3, hfin, hfit, hfew⟩ : f = T.fin ∧ fz = f + l.length ∧ l.length ≤ N * 128 - T.bs.length ∧ l.length ≤ 1099511627776 - T.fin ∧ T.fin ≤ 1099511627776 ∧ T.bs.length ≤ N * 128 ∧ N ≤ 4096)
    have HA := Lib.hid A4
    have hce' := Lib.hid hce
    clear hf hf2 hz2 hz3 hfin hfit hfew hce x4 A4 hA
    go_wp2
    refine wp_region_noPanic (wp_region_held_drew (S := fun w' => w'.cell? ⟨bt, 0, none⟩ = some (.pointer (some ⟨gT, 0, none⟩)) ∧ w'.cell? ⟨gT, 6, none⟩ = some (.int .u64 f) ∧ w'.cell? ⟨bn, 0, none⟩ = some (.int .u64 l.length)) (by kernel_rfl) ⟨x4', c6, n4⟩ (fun hS => ?_))
    refine wpAnyH_take (i := 0) (v := (.pointer (some ⟨gT, 0, none⟩))) (lit rfl) (by kernel_rfl) (by kernel_rfl) (by kernel_rfl) (fun _ _ _ h => h) (Or.inl ⟨by rfl, fun w hw => by obtain ⟨c1, c2, c3⟩ := hw; go_simp⟩) hS ?_
    simp only [Act.put, List.setIfInBounds_toArray, List.set_cons_zero, List.set_cons_succ]
    refine wpAnyH_take (i := 1) (v := (.pointer (some ⟨gT, 0, none⟩))) (lit rfl) (by kernel_rfl) (by kernel_rfl) (by kernel_rfl) (fun _ _ _ h => h) (Or.inl ⟨by rfl, fun w hw => by obtain ⟨c1, c2, c3⟩ := hw; go_simp⟩) hS ?_
    simp only [Act.put, List.setIfInBounds_toArray, List.set_cons_zero, List.set_cons_succ]
    refine wpAnyH_take (i := 2) (v := (.pointer (some ⟨gT, 0, none⟩))) (lit rfl) (by kernel_rfl) (by kernel_rfl) (by kernel_rfl) (fun _ _ _ h => h) (Or.inl ⟨by rfl, fun w _ => by go_simp⟩) hS ?_
    simp only [Act.put, List.setIfInBounds_toArray, List.set_cons_zero, List.set_cons_succ]
    refine wpAnyH_take (i := 3) (v := (.pointer (some ⟨gT, 6, none⟩))) (lit rfl) (by kernel_rfl) (by kernel_rfl) (by kernel_rfl) (fun _ _ _ h => h) (Or.inl ⟨by rfl, fun w _ => by go_simp⟩) hS ?_
    simp only [Act.put, List.setIfInBounds_toArray, List.set_cons_zero, List.set_cons_succ]
    refine wpAnyH_take (i := 4) (v := (.int .u64 f)) (lit rfl) (by kernel_rfl) (by kernel_rfl) (by kernel_rfl) (fun _ _ _ h => h) (Or.inl ⟨by rfl, fun w hw => by obtain ⟨c1, c2, c3⟩ := hw; go_simp⟩) hS ?_
    simp only [Act.put, List.setIfInBounds_toArray, List.set_cons_zero, List.set_cons_succ]
    refine wpAnyH_take (i := 5) (v := (.pointer (some ⟨gT, 0, none⟩))) (lit rfl) (by kernel_rfl) (by kernel_rfl) (by kernel_rfl) (fun _ _ _ h => h) (Or.inl ⟨by rfl, fun w hw => by obtain ⟨c1, c2, c3⟩ := hw; go_simp⟩) hS ?_
    simp only [Act.put, List.setIfInBounds_toArray, List.set_cons_zero, List.set_cons_succ]
    refine wpAnyH_take (i := 6) (v := (.pointer (some ⟨gT, 0, none⟩))) (lit rfl) (by kernel_rfl) (by kernel_rfl) (by kernel_rfl) (fun _ _ _ h => h) (Or.inl ⟨by rfl, fun w _ => by go_simp⟩) hS ?_
    simp only [Act.put, List.setIfInBounds_toArray, List.set_cons_zero, List.set_cons_succ]
    refine wpAnyH_take (i := 7) (v := (.pointer (some ⟨gT, 6, none⟩))) (lit rfl) (by kernel_rfl) (by kernel_rfl) (by kernel_rfl) (fun _ _ _ h => h) (Or.inl ⟨by rfl, fun w _ => by go_simp⟩) hS ?_
    simp only [Act.put, List.setIfInBounds_toArray, List.set_cons_zero, List.set_cons_succ]
    refine wpAnyH_take (i := 8) (v := (.int .u64 f)) (lit rfl) (by kernel_rfl) (by kernel_rfl) (by kernel_rfl) (fun _ _ _ h => h) (Or.inl ⟨by rfl, fun w hw => by obtain ⟨c1, c2, c3⟩ := hw; go_simp⟩) hS ?_
    simp only [Act.put, List.setIfInBounds_toArray, List.set_cons_zero, List.set_cons_succ]
    refine wpAnyH_take (i := 9) (v := (.int .u64 l.length)) (lit rfl) (by kernel_rfl) (by kernel_rfl) (by kernel_rfl) (fun _ _ _ h => h) (Or.inl ⟨by rfl, fun w hw => by obtain ⟨c1, c2, c3⟩ := hw; go_simp⟩) hS ?_
    simp only [Act.put, List.setIfInBounds_toArray, List.set_cons_zero, List.set_cons_succ]
    refine wpAnyH_take (i := 10) (v := (.int .u64 fz)) (lit rfl) (by kernel_rfl) (by kernel_rfl) (by kernel_rfl) (fun _ _ _ h => h) (Or.inl ⟨by rfl, fun w _ => by go_simp⟩) hS ?_
    simp only [Act.put, List.setIfInBounds_toArray, List.set_cons_zero, List.set_cons_succ]
    refine wpAnyH_ready (rs := [11]) (by kernel_rfl) (by simp) (AllReadyH.cons (lit rfl) (fun K hK => ?_) AllReadyH.nil)
    go_simp
    go_wp2_with (go_at_call 49; refine (places_walk _ gT f fz).mono ?_; rintro e y5 ⟨bf, bt2, bs2, rfl, hbf, hbt2, hbs2, b5, l1, l2, l3⟩)
    have x5 : y5.cell? ⟨bt, 0, none⟩ = some (.pointer (some ⟨gT, 0, none⟩)) := (b5.cell (p := ⟨bt, 0, none⟩) (cell_lt x4')).trans x4'
    have c65 : y5.cell? ⟨gT, 6, none⟩ = some (.int .u64 f) := (b5.cell (p := ⟨gT, 6, none⟩) (cell_lt c6)).trans c6
    have n5 : y5.cell? ⟨bn, 0, none⟩ = some (.int .u64 l.length) := (b5.cell (p := ⟨bn, 0, none⟩) (cell_lt n4)).trans n4
    refine hK.out _ _ ⟨x5, c65, n5⟩ (fun _ => ?_)
    clear hK K
    refine wpAnyH_done (by kernel_rfl) (NoPanic.normal ?_) _
    go_wp2
    have A5 := HA.out.drew.below b5
    have u5 := A5.under
    rw [hw0.out] at u5
    have hpre : N < 4294967296 ∧ f ≤ fz ∧ fz < 4611686018427387904 := by
      obtain ⟨hf, hf2, hz2, hz3, hfin, hfit, hfew⟩ := HN.out
      omega
    have i0 : AppI w gT gR g gt N a T bf bt2 bs2 bn bs bt f fz l 0 y5 := ⟨hbf, hbt2, hbs2, all_has A5 (by simp), all_has A5 (by simp), all_has A5 (by simp), hT.under u5 hT.lt, by rw [List.take_zero, List.append_nil]; exact hR.of_block (u5.block _ hR.lt), Fr.of_below u5 _⟩
    refine (wpIn_wide (n := 9)).1 (range_places (n := 9) bf bt2 bs2 gT gR N f fz hO.one hpre.1 hpre.2.1 hpre.2.2 rfl rfl (hbf.cell 0) (fun p W => ∃ k, p = f + k ∧ k ≤ l.length ∧ AppI w gT gR g gt N a T bf bt2 bs2 bn bs bt f fz l k W) (fun _ _ => False)
      (fun p A B row h hg hr => by obtain ⟨k, h1, h2, i⟩ := h; exact ⟨k, h1, h2, i.own u5.size hg hr⟩) (fun _ _ _ _ h _ _ => h) (fun p W h => by obtain ⟨k, _, _, i⟩ := h; exact ⟨i.bt2.cell 0, i.bs2.cell 0, i.tape.cell 3⟩) ⟨0, rfl, Nat.zero_le _, i0⟩ ?a1 ?assign ?body ?done ?stop)
    case assign =>
      intro l' p W K hK
      unfold enc
      gi_wp2
      exact hK
    case stop =>
      intro D c W _ h
      exact h.elim
    case body =>
      rintro l' p W ⟨k, rfl, hk, i⟩ hlt
      have hbw : w.heap.size ≤ bs := by
        obtain ⟨_, _, hb, _⟩ := all_get A5 (P := Bl w0.heap.size bs 9 [.string ⟨l.toArray⟩]) (by simp)
        rw [hw0.out] at hb
        exact hb
      obtain ⟨hf, hf2, hz2, hz3, hfin, hfit, hfew⟩ := HN.out
      have hc1 : k + cut (f + k) fz ≤ l.length := by unfold cut; omega
      have hc2 : (f + k) % (N * 128) + cut (f + k) fz ≤ N * 128 := by
        have h1 := place_eq N (f + k)
        have h2 := sec_lt (p := f + k) hO.one
        have h3 : cut (f + k) fz ≤ 128 - (f + k) % 128 := by unfold cut; omega
        have h4 : (f + k) % 128 < 128 := Nat.mod_lt _ (by decide)
        generalize cut (f + k) fz = c at *
        generalize (f + k) % (N * 128) = q at *
        generalize (f + k) % 128 = t at *
        generalize sec N (f + k) = s at *
        clear HN hf hf2 hz2 hz3 hfin hfit hc1
        omega
      have hn1 : T.bs.length + l.length ≤ N * 128 := by omega
      generalize cut (f + k) fz = c at *
      generalize hq : (f + k) % (N * 128) = q at *
      generalize 128 - (f + k) % 128 = r at *
      obtain ⟨W2, k1, k2, k3⟩ := run_copy_long (w := W.drew) 23 9 3 5 Try.underlying23 (by kernel_rfl) gR q c r (l.drop k) 126 _ i.rng.drew (by rw [List.length_drop]; omega) (by rw [byteCells_length, ring_length]; omega)
      have HI := Lib.hid (AppI.step i hbw hf hc1 hn1 (by rw [hq]; exact hc2) (by rw [hq]; exact k2) ⟨k3.os, k3.tape, k3.output, k3.size, k3.block⟩)
      have hdl : (l.drop k).length = l.length - k := List.length_drop ..
      have hcd : c ≤ l.length - k := by omega
      have hsz : (⟨(l.drop k).toArray⟩ : ByteArray).size = l.length - k := hdl
      have HX : (⟨(l.drop k).toArray⟩ : ByteArray).extract c (l.length - k) = ⟨(l.drop (k + c)).toArray⟩ := by
        rw [ByteArray.extract_mk, ← hdl, ← List.drop_drop]
        rw [List.take_of_length_le (by rw [List.length_drop]; exact Nat.le_refl _)]
      have cb : W.drew.cell? ⟨bs, 0, none⟩ = some (.string ⟨(l.drop k).toArray⟩) := i.bs.cell 0
      have nR : bs ∉ [gR] := fun hm => by
        rw [List.mem_singleton] at hm
        exact has_ne i.bs i.rng (by decide) hm
      have hb2 := k3.has (show Has W.drew bs 9 [.string ⟨(l.drop k).toArray⟩] from i.bs) nR
      have cb2 : W2.cell? ⟨bs, 0, none⟩ = some (.string ⟨(l.drop k).toArray⟩) := hb2.cell 0
      have fb2 := hb2.free 0
      have HZ := Lib.hid (⟨keeps_fr HI.out.2 (fun x hx => by
        simp only [List.mem_cons, List.not_mem_nil, or_false] at hx
        rcases hx with rfl | rfl
        · obtain ⟨rr, hrr⟩ := i.rng
          exact ⟨_, _, _, hrr⟩
        · exact ⟨_, _, _, i.bs⟩), k + c, by omega, hc1, HI.out.1⟩ : KeepsFrom y5.heap.size W (W2.setCell ⟨bs, 0, none⟩ (.string ⟨(l.drop (k + c)).toArray⟩)) ∧ ∃ k', f + k + c = f + k' ∧ k' ≤ l.length ∧ AppI w gT gR g gt N a T bf bt2 bs2 bn bs bt f fz l k' (W2.setCell ⟨bs, 0, none⟩ (.string ⟨(l.drop (k + c)).toArray⟩)))
      clear HI
      generalize l.drop (k + c) = d2 at *
      generalize l.drop k = d1 at *
      clear hf hf2 hz2 hz3 hfin hfit hfew hc1 hc2 hn1 hq k2 k3 hb2 nR hlt hk hdl
      refine wpIn_block (region_in (by kernel_rfl) (plain_of (by kernel_rfl)) (rpost_block _ _ _ _ _) ?_)
      change wpAny _ _ _ _ _ _ _ W.drew
      refine wpAny_take (i := 1) (v := (.slice (some ⟨gR, q, none⟩) c r)) (lit rfl) (by kernel_rfl) (by kernel_rfl) (by kernel_rfl) (fun _ _ _ h => h.elim) (Or.inl ⟨by rfl, fun w => by go_simp⟩) ?_
      simp only [Act.put, List.setIfInBounds_toArray, List.set_cons_zero, List.set_cons_succ]
      refine wpAny_ready (rs := [0, 2]) (by kernel_rfl) (by simp) (AllReady.cons (lit rfl) (fun K hK => ?_) (AllReady.cons (lit rfl) (fun K hK => ?_) (AllReady.nil)))
      · go_simp
        refine hK _ _ ?_
        clear hK K
        refine wpAny_ready (rs := [2]) (by kernel_rfl) (by simp) (AllReady.cons (lit rfl) (fun K hK => ?_) (AllReady.nil))
        go_simp
        refine hK _ _ ?_
        clear hK K
        refine wpAny_ready (rs := [3]) (by kernel_rfl) (by simp) (AllReady.cons (lit rfl) (fun K hK => ?_) (AllReady.nil))
        go_simp
        refine hK _ _ ?_
        clear hK K
        refine wpAny_ready (rs := [4]) (by kernel_rfl) (by simp) (AllReady.cons (lit rfl) (fun K hK => ?_) (AllReady.nil))
        go_simp
        refine hK _ _ ?_
        clear hK K
        refine wpAny_ready (rs := [5]) (by kernel_rfl) (by simp) (AllReady.cons (lit rfl) (fun K hK => ?_) (AllReady.nil))
        go_simp
        refine hK _ _ ?_
        clear hK K
        refine wpAny_done (by kernel_rfl) ?_ _
        exact HZ.out
      · go_simp
        refine hK _ _ ?_
        clear hK K
        refine wpAny_ready (rs := [0, 3]) (by kernel_rfl) (by simp) (AllReady.cons (lit rfl) (fun K hK => ?_) (AllReady.cons (lit rfl) (fun K hK => ?_) (AllReady.nil)))
        · go_simp
          refine hK _ _ ?_
          clear hK K
          refine wpAny_ready (rs := [3]) (by kernel_rfl) (by simp) (AllReady.cons (lit rfl) (fun K hK => ?_) (AllReady.nil))
          go_simp
          refine hK _ _ ?_
          clear hK K
          refine wpAny_ready (rs := [4]) (by kernel_rfl) (by simp) (AllReady.cons (lit rfl) (fun K hK => ?_) (AllReady.nil))
          go_simp
          refine hK _ _ ?_
          clear hK K
          refine wpAny_ready (rs := [5]) (by kernel_rfl) (by simp) (AllReady.cons (lit rfl) (fun K hK => ?_) (AllReady.nil))
          go_simp
          refine hK _ _ ?_
          clear hK K
          refine wpAny_done (by kernel_rfl) ?_ _
          exact HZ.out
        · go_simp
          refine hK _ _ ?_
          clear hK K
          refine wpAny_ready (rs := [0]) (by kernel_rfl) (by simp) (AllReady.cons (lit rfl) (fun K hK => ?_) (AllReady.nil))
          go_simp
          refine hK _ _ ?_
          clear hK K
          refine wpAny_ready (rs := [4]) (by kernel_rfl) (by simp) (AllReady.cons (lit rfl) (fun K hK => ?_) (AllReady.nil))
          go_simp
          refine hK _ _ ?_
          clear hK K
          refine wpAny_ready (rs := [5]) (by kernel_rfl) (by simp) (AllReady.cons (lit rfl) (fun K hK => ?_) (AllReady.nil))
          go_simp
          refine hK _ _ ?_
          clear hK K
          refine wpAny_done (by kernel_rfl) ?_ _
          exact HZ.out
    case done =>
      rintro D W hD ⟨k, hk, hkl, i⟩ hK
      obtain ⟨hf, hf2, hz2, hz3, hfin, hfit, hfew⟩ := HN.out
      obtain rfl : k = l.length := by omega
      have d6 : W.cell? ⟨gT, 6, none⟩ = some (.int .u64 f) := by rw [hf]; exact i.tape.cell 6
      have db : W.cell? ⟨bt, 0, none⟩ = some (.pointer (some ⟨gT, 0, none⟩)) := i.bt.cell 0
      have dn : W.cell? ⟨bn, 0, none⟩ = some (.int .u64 l.length) := i.bn.cell 0
      have df := i.tape.free 6
      have HM := Lib.hid hf
      have HM2 := Lib.hid hf2
      clear hf hf2 hz2 hz3 hfin hfit hfew
      go_wp2
      go_still_tail 8, (by kernel_rfl)
      go_wp2
      have u5' := u5.size
      obtain ⟨z1, z2, z3, z4⟩ := i.ends (by omega) hK HM.out
      refine post_mark rfl z1 (results_tmp rfl _ _ _) ?_
      exact ⟨0, hce'.out.symm, rfl, .inr ⟨rfl, z2, z3, z4⟩⟩
  · go_wp2
    refine post_ret rfl (results_tmp rfl _ _ _) ?_
    have u4 := A4.under
    rw [hw0.out] at u4
    exact ⟨ce, hce.symm, rfl, .inl ⟨h0, u4⟩⟩
end
end TA
end Go.Proofs.Ytkhdidhpcdlmcaa
