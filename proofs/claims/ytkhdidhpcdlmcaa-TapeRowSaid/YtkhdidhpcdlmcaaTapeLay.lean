/- A tape's sectors are laid. -/
import Derived.Test.YtkhdidhpcdlmcaaTapeTools
namespace Go.Proofs.Ytkhdidhpcdlmcaa
set_option maxRecDepth 100000
open Go.RowKit Go.Lib MM MF DM DK DW MY TM DP TP RN PL TF TR TQ BL FL TA TZ
namespace TL2
attribute [local go_sem] Oper.semAt_some
/-- A sector of the ring. -/
def sect (r : List UInt8) (i : Nat) : List UInt8 := (r.drop (i * 128)).take 128
/-- The sectors that have a place of what is not published, one behind the other. -/
def layRun (N : Nat) (a : Int) (r : List UInt8) (fz : Nat) : Nat → Nat → Nat → St → St × Int
  | 0, _, _, S => (S, 0)
  | F + 1, p, laid, S =>
    if p < fz then
      if laid = N then (S, 0)
      else if writeE S (a + 2 + (sec N p : Nat)) (sect r (sec N p)) ≠ 0 then (writeS S (a + 2 + (sec N p : Nat)) (sect r (sec N p)), writeE S (a + 2 + (sec N p : Nat)) (sect r (sec N p)))
      else layRun N a r fz F (p + cut p fz) (laid + 1) (writeS S (a + 2 + (sec N p : Nat)) (sect r (sec N p)))
    else (S, 0)
def layT (N : Nat) (a : Int) (T : TS) (S : St) : St × Int := layRun N a (ring N T.start T.bs) T.fin (T.fin - T.stable) T.stable 0 S
theorem layRun_end (N : Nat) (a : Int) (r : List UInt8) (fz F p laid : Nat) (S : St) (h : fz ≤ p) : layRun N a r fz F p laid S = (S, 0) := by
  cases F with
  | zero => rfl
  | succ F => unfold layRun; rw [if_neg (by omega)]
theorem layRun_full (N : Nat) (a : Int) (r : List UInt8) (fz F p : Nat) (S : St) : layRun N a r fz F p N S = (S, 0) := by
  cases F with
  | zero => rfl
  | succ F =>
    unfold layRun
    by_cases h : p < fz
    · rw [if_pos h, if_pos rfl]
    · rw [if_neg h]
theorem layRun_bad {N : Nat} {a : Int} {r : List UInt8} {fz F p laid : Nat} {S : St} (h : p < fz) (hl : laid ≠ N) (he : writeE S (a + 2 + (sec N p : Nat)) (sect r (sec N p)) ≠ 0) :
    layRun N a r fz (F + 1) p laid S = (writeS S (a + 2 + (sec N p : Nat)) (sect r (sec N p)), writeE S (a + 2 + (sec N p : Nat)) (sect r (sec N p))) := by
  unfold layRun
  rw [if_pos h, if_neg hl, if_pos he]
theorem layRun_good {N : Nat} {a : Int} {r : List UInt8} {fz F p laid : Nat} {S : St} (h : p < fz) (hl : laid ≠ N) (he : writeE S (a + 2 + (sec N p : Nat)) (sect r (sec N p)) = 0) :
    layRun N a r fz (F + 1) p laid S = layRun N a r fz F (p + cut p fz) (laid + 1) (writeS S (a + 2 + (sec N p : Nat)) (sect r (sec N p))) := by
  conv => lhs; unfold layRun
  rw [if_pos h, if_neg hl, if_neg (by rw [he]; decide)]
theorem writeS_un (S : St) (i : Int) (l : List UInt8) : (writeS S i l).un.length ≤ S.un.length + 1 := by
  unfold writeS
  split
  · omega
  · split
    · omega
    · split
      · simp only [List.length_append, List.length_singleton]
        exact Nat.le_refl _
      · unfold opS
        split
        · omega
        · split
          · exact Nat.le_succ _
          · exact Nat.le_succ _
/-- What a round keeps. -/
structure LayI (w : World) (B gT gR g gt N : Nat) (a : Int) (T : TS) (bt bl br bt2 bs2 fz : Nat) (fs : List Nat) (laid : Nat) (S' : St) (W : World) : Prop where
  hbt : Has W bt 26 [.pointer (some ⟨gT, 0, none⟩)]
  hbl : Has W bl 3 [.int .i64 laid]
  hbt2 : Has W bt2 30 [.int .u64 fz]
  hbs2 : Has W bs2 26 [.pointer (some ⟨gT, 0, none⟩)]
  htape : Has W gT 80 (tcs gR g gt a N T)
  hrng : Row W gR 126 (byteCells (ring N T.start T.bs))
  hdk : ∃ fs', Dk W B g S' fs' ∧ (∀ x ∈ fs', x ∈ fs ∨ w.heap.size ≤ x) ∧ bt ∉ fs' ∧ bl ∉ fs' ∧ br ∉ fs' ∧ bt2 ∉ fs' ∧ bs2 ∉ fs' ∧ gT ∉ fs' ∧ gR ∉ fs'
  hfr : Fr w W fs
theorem dk_cells {W : World} {B g : Nat} {S : St} {fs : List Nat} (h : Dk W B g S fs) : ∀ x ∈ fs, ∃ cs t f, W.heap[x]? = some (.cells cs t f) := by
  obtain ⟨gn, cn, gf, cf, vu, h1, h2, h3, h4, h5, h6, h7, h8, hg, ⟨rn, hn⟩, ⟨rf, hf⟩, hu, b1, b2, b3, rfl⟩ := h
  intro x hx
  simp only [List.mem_cons, Option.mem_toList] at hx
  rcases hx with rfl | rfl | rfl | hx
  · exact ⟨_, _, _, hg⟩
  · exact ⟨_, _, _, hn⟩
  · exact ⟨_, _, _, hf⟩
  · rcases hu.2 with ⟨rfl, _⟩ | ⟨q, cap, cur, rfl, _, hh, _⟩
    · simp [Value.ownBlock] at hx
    · simp only [Value.ownBlock, Option.some.injEq] at hx
      subst hx
      exact ⟨_, _, _, hh⟩
theorem dk_own {A A' : World} {B g n : Nat} {S : St} {fs : List Nat} {row : Option Nat} (h : Dk A B g S fs) (hg : A.grownBy A' row) (hr : ∀ r, row = some r → n ≤ r ∧ ∃ o : Obj, A.heap[r]? = some o ∧ o.isCells = false) : Dk A' B g S fs := by
  refine h.kept (Fr.of_grown (fs := row.toList) hg (fun g e => by simp [e])) (fun x hx hm => ?_)
  obtain ⟨cs, t, f, hc⟩ := dk_cells h x hx
  simp only [Option.mem_toList] at hm
  obtain ⟨_, o, ho, hn⟩ := hr x hm
  rw [hc] at ho
  cases ho
  cases hn
theorem LayI.own {w A A' : World} {B gT gR g gt N bt bl br bt2 bs2 fz laid n : Nat} {a : Int} {T : TS} {fs : List Nat} {S' : St} {row : Option Nat} (i : LayI w B gT gR g gt N a T bt bl br bt2 bs2 fz fs laid S' A) (hn : w.heap.size ≤ n) (hg : A.grownBy A' row)
    (hr : ∀ r, row = some r → n ≤ r ∧ ∃ o : Obj, A.heap[r]? = some o ∧ o.isCells = false) : LayI w B gT gR g gt N a T bt bl br bt2 bs2 fz fs laid S' A' := by
  obtain ⟨fs', d, rest⟩ := i.hdk
  exact ⟨own_has i.hbt hg hr, own_has i.hbl hg hr, own_has i.hbt2 hg hr, own_has i.hbs2 hg hr, own_has i.htape hg hr, own_row i.hrng hg hr, ⟨fs', dk_own d hg hr, rest⟩, own_fr i.hfr hn hg hr⟩
theorem sect_conv (W : World) (gR s N : Nat) (r : List UInt8) (hR : Row W gR 126 (byteCells r)) (hl : r.length = N * 128) (hs : s < N) :
    (convert 23 9 (.slice (some ⟨gR, s * 128, none⟩) 128 128)).run Try.prog W = .ok (.string ⟨(sect r s).toArray⟩) W := by
  have hlen : (sect r s).length = 128 := by unfold sect; rw [List.length_take, List.length_drop]; omega
  have h : W.rangeAt gR (s * 128) (byteCells (sect r s)) := by
    refine hR.range _ _ (fun j hj => ?_)
    rw [byteCells_length, hlen] at hj
    unfold sect byteCells
    rw [List.getElem?_map, List.getElem?_map, List.getElem?_take_of_lt hj, List.getElem?_drop]
  have := string_of_range h 128
  rwa [hlen] at this
theorem LayI.store {w W : World} {B gT gR g gt N bt bl br bt2 bs2 fz laid : Nat} {a e0 : Int} {T : TS} {fs : List Nat} {S' : St} (i : LayI w B gT gR g gt N a T bt bl br bt2 bs2 fz fs laid S' W) (hbr : Has W br 36 [.int .i64 e0]) (hw : w.heap.size ≤ br) (u : Value) :
    LayI w B gT gR g gt N a T bt bl br bt2 bs2 fz fs laid S' (W.setCell ⟨br, 0, none⟩ u) ∧ Has (W.setCell ⟨br, 0, none⟩ u) br 36 [u] ∧ Fr W (W.setCell ⟨br, 0, none⟩ u) [br] := by
  have nb : ∀ {b : Nat} {t : TypeId} {cs : List Value}, Has W b t cs → t ≠ 36 → b ≠ (⟨br, 0, none⟩ : Addr).block := fun h ht => has_ne h (Row.of_has hbr) ht
  have nR : gR ≠ br := fun e => has_ne hbr i.hrng (by decide) e.symm
  have fr : Fr W (W.setCell ⟨br, 0, none⟩ u) [br] := (Fr.refl W [br]).setCell (.inl (by simp)) u
  obtain ⟨fs', d, q1, q2, q3, q4, rest⟩ := i.hdk
  refine ⟨⟨i.hbt.far (nb i.hbt (by decide)) _, i.hbl.far (nb i.hbl (by decide)) _, i.hbt2.far (nb i.hbt2 (by decide)) _, i.hbs2.far (nb i.hbs2 (by decide)) _, i.htape.far (nb i.htape (by decide)) _, i.hrng.of_block (Below.heap_setCell W _ _ gR nR), ⟨fs', d.kept fr (fun x hx hm => by
    rw [List.mem_singleton] at hm
    exact q4 (hm ▸ hx)), q1, q2, q3, q4, rest⟩, i.hfr.trans fr (fun x hx => by
    rw [List.mem_singleton] at hx
    exact .inr (hx ▸ hw))⟩, hbr.put 0 u, fr⟩
theorem LayI.ends {w W : World} {B gT gR g gt N bt bl br bt2 bs2 fz laid D : Nat} {a e : Int} {T : TS} {fs : List Nat} {S' : St} (i : LayI w B gT gR g gt N a T bt bl br bt2 bs2 fz fs laid S' W) (hbr : Has W br 36 [.int .i64 e]) (hD : w.heap.size ≤ D) (hK : W.heap[D]? = some (.deferred (some []))) :
    (W.putObj D (.deferred none)).cell? ⟨br, 0, none⟩ = some (.int .i64 e) ∧ After w (W.putObj D (.deferred none)) B g S' fs := by
  have hg := grownBy_putObj' W D (.deferred none)
  have hr : ∀ r, some D = some r → w.heap.size ≤ r ∧ ∃ o : Obj, W.heap[r]? = some o ∧ o.isCells = false := fun r e => by cases e; exact ⟨hD, _, hK, rfl⟩
  obtain ⟨fs', d, q1, _⟩ := i.hdk
  exact ⟨(own_has hbr hg hr).cell 0, fs', dk_own d hg hr, own_fr i.hfr (Nat.le_refl _) hg hr, q1⟩
theorem LayI.wrote {w W W2 : World} {B gT gR g gt N bt bl br bt2 bs2 fz laid : Nat} {a e0 : Int} {T : TS} {fs fs' fs2 : List Nat} {S' S2 : St} (i : LayI w B gT gR g gt N a T bt bl br bt2 bs2 fz fs laid S' W) (_ : Dk W B g S' fs') (q1 : ∀ x ∈ fs', x ∈ fs ∨ w.heap.size ≤ x) (qt : bt ∉ fs') (ql : bl ∉ fs') (qr : br ∉ fs') (q2 : bt2 ∉ fs') (q3 : bs2 ∉ fs') (qT : gT ∉ fs') (qR : gR ∉ fs')
    (hbr : Has W br 36 [.int .i64 e0]) (_ : w.heap.size ≤ br) (_ : w.heap.size ≤ bt) (_ : w.heap.size ≤ bl) (_ : w.heap.size ≤ bt2) (_ : w.heap.size ≤ bs2) (dk2 : Dk W2 B g S2 fs2) (fr : Fr W W2 fs') (m2 : ∀ x ∈ fs2, x ∈ fs' ∨ W.heap.size ≤ x) : LayI w B gT gR g gt N a T bt bl br bt2 bs2 fz fs laid S2 W2 := by
  have out : ∀ {b : Nat}, b ∉ fs' → b < W.heap.size → b ∉ fs2 := fun hb hl hm => by
    rcases m2 _ hm with h | h
    · exact hb h
    · omega
  refine ⟨fr.has i.hbt qt, fr.has i.hbl ql, fr.has i.hbt2 q2, fr.has i.hbs2 q3, fr.has i.htape qT, i.hrng.kept fr qR, ⟨fs2, dk2, fun x hx => ?_, out qt i.hbt.lt, out ql i.hbl.lt, out qr hbr.lt, out q2 i.hbt2.lt, out q3 i.hbs2.lt, out qT i.htape.lt, out qR i.hrng.lt⟩, i.hfr.trans fr q1⟩
  rcases m2 x hx with h | h
  · exact q1 x h
  · exact .inr (Nat.le_trans i.hfr.size h)
theorem LayI.count {w W : World} {B gT gR g gt N bt bl br bt2 bs2 fz laid : Nat} {a e0 : Int} {T : TS} {fs : List Nat} {S' : St} (i : LayI w B gT gR g gt N a T bt bl br bt2 bs2 fz fs laid S' W) (hbr : Has W br 36 [.int .i64 e0]) (hw : w.heap.size ≤ bl) :
    LayI w B gT gR g gt N a T bt bl br bt2 bs2 fz fs (laid + 1) S' (W.setCell ⟨bl, 0, none⟩ (.int .i64 ((laid + 1 : Nat) : Int))) ∧ (∀ {n : Nat}, KeepsFrom n W (W.setCell ⟨bl, 0, none⟩ (.int .i64 ((laid + 1 : Nat) : Int)))) ∧ Has (W.setCell ⟨bl, 0, none⟩ (.int .i64 ((laid + 1 : Nat) : Int))) br 36 [.int .i64 e0] := by
  have nb : ∀ {b : Nat} {t : TypeId} {cs : List Value}, Has W b t cs → t ≠ 3 → b ≠ (⟨bl, 0, none⟩ : Addr).block := fun h ht => has_ne h (Row.of_has i.hbl) ht
  have nR : gR ≠ bl := fun e => has_ne i.hbl i.hrng (by decide) e.symm
  have fr : Fr W (W.setCell ⟨bl, 0, none⟩ (.int .i64 ((laid + 1 : Nat) : Int))) [bl] := (Fr.refl W [bl]).setCell (.inl (by simp)) _
  obtain ⟨fs', d, q1, q2, q3, rest⟩ := i.hdk
  refine ⟨⟨i.hbt.far (nb i.hbt (by decide)) _, i.hbl.put 0 _, i.hbt2.far (nb i.hbt2 (by decide)) _, i.hbs2.far (nb i.hbs2 (by decide)) _, i.htape.far (nb i.htape (by decide)) _, i.hrng.of_block (Below.heap_setCell W _ _ gR nR), ⟨fs', d.kept fr (fun x hx hm => by
    rw [List.mem_singleton] at hm
    exact q3 (hm ▸ hx)), q1, q2, q3, rest⟩, i.hfr.trans fr (fun x hx => by
    rw [List.mem_singleton] at hx
    exact .inr (hx ▸ hw))⟩, fun {n} => keeps_fr fr (fun x hx => by
    rw [List.mem_singleton] at hx
    exact hx ▸ ⟨_, _, _, i.hbl⟩), hbr.far (nb hbr (by decide)) _⟩
theorem res_cell {fn : Func} {p b : Nat} {e : Int} {tmps : Array Value} {w : World} (h : fn.results = #[.cell p 36]) (hp : tmps.getD p undef = .pointer (some ⟨b, 0, none⟩)) (hc : w.cell? ⟨b, 0, none⟩ = some (.int .i64 e)) : (results fn tmps).run Try.prog w = .ok (.int .i64 e) w := by
  have e1 : ((asAddr (tmps.getD p undef)).run Try.prog w).andThen (fun a w1 => (loadVar 36 a).run Try.prog w1) = .ok (.int .i64 e) w := by
    rw [hp]
    simp only [asAddr, Sem.run_pure, Result.andThen_ok]
    go_simp
  simp only [results, h]
  simp [Sem.run_bind]
  rw [Array.getD_eq_getD_getElem?] at e1
  exact e1
section
variable {w : World} {gT gR g gt N : Nat} {a : Int} {T : TS} {S : St}
theorem lay_walk (B : Nat) (fs : List Nat) (hT : Has w gT 80 (tcs gR g gt a N T)) (hR : Row w gR 126 (byteCells (ring N T.start T.bs))) (hO : T.Ok N) (d : Dk w B g S fs) (nT : gT ∉ fs) (nR : gR ∉ fs) (ha0 : 0 ≤ a) (ha1 : a ≤ 4096) (hlen : S.un.length < 999990000) :
    Calls Try.prog 57 #[.pointer (some ⟨gT, 0, none⟩)] w fun e w' => e = .returned (.int .i64 (layT N a T S).2) ∧ After w w' B g (layT N a T S).1 fs := by
  obtain ⟨w0, hw0, hA⟩ : ∃ w0, Hid (w0 = w) ∧ All w0 w [] := ⟨w, Lib.hid rfl, All.start w⟩
  have hA3 := bl_new (bl_new (bl_new hA 26 [.pointer (some ⟨gT, 0, none⟩)]) 36 [.int .i64 0]) 3 [.int .i64 0]
  simp only [World.size_alloc] at hA3
  refine calls_of_marks Try.func57 rfl ?_
  simp only [Try.ntmps57, List.size_toArray, List.length_cons, List.length_nil, Nat.reduceAdd, Nat.reduceSub, Array.replicate_succ, Array.replicate_zero, List.push_toArray, List.append_toArray, List.nil_append, List.cons_append]
  go_wp2
  change All w0 (((w.alloc (Obj.cells #[Value.pointer (some { block := gT, off := 0 })] 26)).alloc (Obj.cells #[Value.int IntKind.i64 0] 36)).alloc (Obj.cells #[Value.int IntKind.i64 0] 3)) _ at hA3
  generalize (((w.alloc (Obj.cells #[Value.pointer (some { block := gT, off := 0 })] 26)).alloc (Obj.cells #[Value.int IntKind.i64 0] 36)).alloc (Obj.cells #[Value.int IntKind.i64 0] 3)) = w1 at *
  obtain ⟨bt, ebt⟩ : ∃ bt, bt = w.heap.size := ⟨_, rfl⟩
  obtain ⟨br, ebr⟩ : ∃ br, br = w.heap.size + 1 := ⟨_, rfl⟩
  obtain ⟨bl, ebl⟩ : ∃ bl, bl = w.heap.size + 1 + 1 := ⟨_, rfl⟩
  rw [← ebl, ← ebr, ← ebt] at hA3 ⊢
  have hge : w.heap.size ≤ bt ∧ w.heap.size ≤ br ∧ w.heap.size ≤ bl := by omega
  clear ebl ebr ebt hA
  have u1 := hA3.under
  rw [hw0.out] at u1
  have hT1 := hT.under u1 hT.lt
  have x1 : w1.cell? ⟨bt, 0, none⟩ = some (.pointer (some ⟨gT, 0, none⟩)) := (all_has hA3 (g := bt) (t := 26) (cs := [.pointer (some ⟨gT, 0, none⟩)]) (by simp)).cell 0
  have x5 : w1.cell? ⟨gT, 5, none⟩ = some (.int .u64 T.stable) := hT1.cell 5
  have x6 : w1.cell? ⟨gT, 6, none⟩ = some (.int .u64 T.fin) := hT1.cell 6
  obtain ⟨f, hf⟩ : ∃ f, f = T.stable := ⟨_, rfl⟩
  obtain ⟨fz, hfz⟩ : ∃ fz, fz = T.fin := ⟨_, rfl⟩
  rw [← hf] at x5
  rw [← hfz] at x6
  have HN := Lib.hid (⟨hf, hfz, hO.low, hO.high, hO.ends, hO.fits, hO.one, hO.few⟩ : f = T.stable ∧ fz = T.fin ∧ T.start ≤ T.stable ∧ T.stable ≤ T.fin ∧ T.fin ≤ 1099511627776 ∧ T.bs.length ≤ N * 128 ∧ 1 ≤ N ∧ N ≤ 4096)
  have HT := Lib.hid hT1
  clear hf hfz hT1
  go_still_tail 9, (by kernel_rfl)
  go_wp2_with (go_at_call 49; refine (places_walk _ gT f fz).mono ?_; rintro e y5 ⟨bf, bt2, bs2, rfl, hbf, hbt2, hbs2, b5, l1, l2, l3⟩)
  have A5 := hA3.drew.below b5
  have u5 := A5.under
  rw [hw0.out] at u5
  have hpre : N < 4294967296 ∧ f ≤ fz ∧ fz < 4611686018427387904 ∧ 0 < N := by
    obtain ⟨h1, h2, h3, h4, h5, h6, h7, h8⟩ := HN.out
    omega
  have hw15 : w.heap.size ≤ w1.heap.size := u1.size
  have hge2 : w.heap.size ≤ bt2 ∧ w.heap.size ≤ bs2 := ⟨Nat.le_trans hw15 l2, Nat.le_trans hw15 l3⟩
  have dlt := d.mem
  have i0 : LayI w B gT gR g gt N a T bt bl br bt2 bs2 fz fs 0 S y5 := by
    refine ⟨all_has A5 (by simp), all_has A5 (by simp), hbt2, hbs2, hT.under u5 hT.lt, hR.of_block (u5.block _ hR.lt), ⟨fs, d.below u5, fun x hx => .inl hx, ?_, ?_, ?_, ?_, ?_, nT, nR⟩, Fr.of_below u5 _⟩
    all_goals
      intro hm
      have := (dlt _ hm).2
      omega
  have hbr5 := all_has A5 (g := br) (t := 36) (cs := [.int .i64 0]) (by simp)
  refine (wpIn_wide (n := 9)).1 (range_places (n := 9) bf bt2 bs2 gT gR N f fz hpre.2.2.2 hpre.1 hpre.2.1 hpre.2.2.1 rfl rfl (hbf.cell 0)
    (fun p W => ∃ k laid S', p = f + k ∧ p ≤ fz ∧ laid ≤ k ∧ laid ≤ N ∧ S'.un.length ≤ S.un.length + laid ∧ layRun N a (ring N T.start T.bs) fz (fz - f - laid) p laid S' = layT N a T S ∧ (∃ e0 : Int, Has W br 36 [.int .i64 e0]) ∧ LayI w B gT gR g gt N a T bt bl br bt2 bs2 fz fs laid S' W)
    (fun c W => ∃ laid S' e, layT N a T S = (S', e) ∧ LayI w B gT gR g gt N a T bt bl br bt2 bs2 fz fs laid S' W ∧ ((c = .exit 0 ∧ e = 0 ∧ ∃ e0 : Int, Has W br 36 [.int .i64 e0]) ∨ (c = .ret ∧ Has W br 36 [.int .i64 e])))
    ?own1 ?own2 (fun q W h => by obtain ⟨k, laid, S', _, _, _, _, _, _, _, i⟩ := h; exact ⟨i.hbt2.cell 0, i.hbs2.cell 0, i.htape.cell 3⟩) ⟨0, 0, S, rfl, hpre.2.1, Nat.le_refl _, Nat.zero_le _, Nat.le_refl _, ?start, ⟨0, hbr5⟩, i0⟩ ?a1 ?assign ?body ?done ?stop)
  case own1 =>
    rintro p A B' row ⟨k, laid, S', h1, h2, h3, h4, h5, h6, ⟨e0, h7⟩, i⟩ hg hr
    exact ⟨k, laid, S', h1, h2, h3, h4, h5, h6, ⟨e0, own_has h7 hg hr⟩, i.own u5.size hg hr⟩
  case own2 =>
    rintro c A B' row ⟨laid, S', e, h1, i, h2⟩ hg hr
    exact ⟨laid, S', e, h1, i.own u5.size hg hr, h2.imp (fun h => ⟨h.1, h.2.1, by obtain ⟨e0, h7⟩ := h.2.2; exact ⟨e0, own_has h7 hg hr⟩⟩) (fun h => ⟨h.1, own_has h.2 hg hr⟩)⟩
  case start =>
    obtain ⟨h1, h2, _⟩ := HN.out
    rw [h1, h2]
    rfl
  case assign =>
    intro l' q W K hK
    unfold enc
    gi_wp2
    exact hK
  case body =>
    rintro l' p W ⟨k, laid, S', rfl, hp, hlk, hlN, hun, hrun, ⟨e0, hbr⟩, i⟩ hlt
    have c1 : W.cell? ⟨bl, 0, none⟩ = some (.int .i64 laid) := i.hbl.cell 0
    have c2 : W.cell? ⟨bt, 0, none⟩ = some (.pointer (some ⟨gT, 0, none⟩)) := i.hbt.cell 0
    have c3 : W.cell? ⟨gT, 3, none⟩ = some (.slice (some ⟨gR, 0, none⟩) N N) := i.htape.cell 3
    have c4 : W.cell? ⟨gT, 0, none⟩ = some (.pointer (some ⟨g, 0, none⟩)) := i.htape.cell 0
    have c5 : W.cell? ⟨gT, 2, none⟩ = some (.int .i64 a) := i.htape.cell 2
    have iD : LayI w B gT gR g gt N a T bt bl br bt2 bs2 fz fs laid S' W.drew := i.own (n := w.heap.size) (row := none) (Nat.le_refl _) (only_draws W 1 none) (fun r e => by cases e)
    by_cases hN : laid = N
    · have hE : layT N a T S = (S', 0) := by
        rw [← hrun, hN]
        exact layRun_full _ _ _ _ _ _ _
      have HE := Lib.hid (⟨keeps_fr (Fr.refl W []).drew (by simp), hE, iD, hbr⟩ : KeepsFrom y5.heap.size W W.drew ∧ layT N a T S = (S', 0) ∧ LayI w B gT gR g gt N a T bt bl br bt2 bs2 fz fs laid S' W.drew ∧ Has W.drew br 36 [.int .i64 e0])
      subst hN
      clear hE iD hrun hun hlk hlN i c4 c5 hp hlt hbr
      refine wpIn_block ?_
      refine wpIn_seq ?_
      refine wpIn_seq ?_
      refine still_in 6 (by kernel_rfl) (by kernel_rfl) (plain_of (by kernel_rfl)) (fun ⟨_, _, h⟩ => h) ?_
      change wpStill _ _ W.drew _ _ _
      simp only [List.take_succ_cons, List.take_zero, List.drop_succ_cons, List.drop_zero]
      repeat still_step
      refine wpStill_nil ?_
      go_wp2
      gi_wp2
      obtain ⟨z1, z2, z3, z4⟩ := HE.out
      exact ⟨z1, laid, S', 0, z2, z3, .inl ⟨rfl, rfl, e0, z4⟩⟩
    · have hlN2 : laid < N := by omega
      have hNe : ((laid : Int) == (N : Int)) = false := by rw [beq_eq_false_iff_ne]; omega
      have hNe2 : (laid == N) = false := by rw [beq_eq_false_iff_ne]; exact hN
      obtain ⟨hh1, hh2, hh3, hh4, hh5, hh6, hh7, hh8⟩ := HN.out
      have hc0 : 0 < cut (f + k) fz ∧ f + k + cut (f + k) fz ≤ fz := by
        have h4 : (f + k) % 128 < 128 := Nat.mod_lt _ (by decide)
        unfold cut
        omega
      have hsl := sec_lt (p := f + k) hpre.2.2.2
      have hF : fz - f - laid = (fz - f - (laid + 1)) + 1 := by omega
      rw [hF] at hrun
      obtain ⟨fs', dk, q1, qt, ql, qr, q2, q3, qT, qR⟩ := i.hdk
      have hun2 : S'.un.length < 1000000000 := by omega
      have HW := Lib.hid (write_walk W.drew.drew B g S' fs' (dk.drew.drew) (a + 2 + (sec N (f + k) : Nat)) (sect (ring N T.start T.bs) (sec N (f + k))) hun2)
      have hcv := sect_conv W.drew.drew gR (sec N (f + k)) N (ring N T.start T.bs) i.hrng.drew.drew (ring_length _ _ _) hsl
      have hal : (Try.prog.arrayLen 126 : Nat) = 128 := by kernel_rfl
      have hls : (Instr.sliceAt 126 (.pointer (some ⟨gR, sec N (f + k) * 128, none⟩)) none none none).run Try.prog W.drew.drew = .ok (.slice (some ⟨gR, sec N (f + k) * 128, none⟩) 128 128) W.drew.drew := by
        rw [run_sliceAt_array_all (P := Try.prog) W.drew.drew 126 ⟨gR, sec N (f + k) * 128, none⟩ (by kernel_rfl)]
        have hz : (sizeOf (Try.prog.elem 126)).run Try.prog W.drew.drew = .ok 1 W.drew.drew := by kernel_rfl
        rw [hz, hal]
        rfl
      have e2 : wrap64 (a + 2) = a + 2 := by unfold wrap64; omega
      have e3 : wrap64 (a + 2 + (sec N (f + k) : Nat)) = a + 2 + (sec N (f + k) : Nat) := by unfold wrap64; omega
      have HX := Lib.hid (⟨hh1, hh2, hh3, hh4, hh5, hh6, hh7, hh8, hc0, hlN2, hrun, hun, hlk, hlt, hN⟩ : f = T.stable ∧ fz = T.fin ∧ T.start ≤ T.stable ∧ T.stable ≤ T.fin ∧ T.fin ≤ 1099511627776 ∧ T.bs.length ≤ N * 128 ∧ 1 ≤ N ∧ N ≤ 4096 ∧ (0 < cut (f + k) fz ∧ f + k + cut (f + k) fz ≤ fz) ∧ laid < N ∧ layRun N a (ring N T.start T.bs) fz (fz - f - (laid + 1) + 1) (f + k) laid S' = layT N a T S ∧ S'.un.length ≤ S.un.length + laid ∧ laid ≤ k ∧ f + k < fz ∧ laid ≠ N)
      clear hh1 hh2 hh3 hh4 hh5 hh6 hh7 hh8 hc0 hlN2 hF hrun hun hlk hlt hN hlN hp hun2 hal
      generalize hsc : sec N (f + k) = sc at *
      generalize hst : sect (ring N T.start T.bs) sc = st at *
      clear iD
      refine wpIn_block ?_
      refine wpIn_seq ?_
      refine wpIn_seq ?_
      refine still_in 6 (by kernel_rfl) (by kernel_rfl) (plain_of (by kernel_rfl)) (fun ⟨_, _, h⟩ => h) ?_
      change wpStill _ _ W.drew _ _ _
      simp only [List.take_succ_cons, List.take_zero, List.drop_succ_cons, List.drop_zero]
      repeat still_step
      refine wpStill_nil ?_
      go_wp2
      refine wpIn_cond_false rfl (wpIn_skip ?_)
      refine wpIn_seq ?_
      refine wpIn_seq ?_
      refine still_in 19 (by kernel_rfl) (by kernel_rfl) (plain_of (by kernel_rfl)) (fun ⟨_, _, h⟩ => h) ?_
      change wpStill _ _ W.drew.drew _ _ _
      simp only [List.take_succ_cons, List.take_zero, List.drop_succ_cons, List.drop_zero]
      repeat still_step
      refine wpStill_nil ?_
      go_wp2_with (go_at_call 110; refine HW.out.mono ?_; rintro e W2 ⟨rfl, fs2, dk2, fr2, m2⟩)
      have fr2' : Fr W W2 fs' := ⟨fr2.os, fr2.tape, fr2.output, fr2.size, fr2.block⟩
      have i2 : LayI w B gT gR g gt N a T bt bl br bt2 bs2 fz fs laid (writeS S' (a + 2 + (sc : Nat)) st) W2 := i.wrote dk q1 qt ql qr q2 q3 qT qR hbr hge.2.1 hge.1 hge.2.2 hge2.1 hge2.2 dk2 fr2' m2
      have hbr2 := fr2'.has hbr qr
      have hk2 : KeepsFrom y5.heap.size W W2 := keeps_fr fr2' (dk_cells dk)
      obtain ⟨hh1, hh2, hh3, hh4, hh5, hh6, hh7, hh8, hc0, hlN2, hrun, hun, hlk, hlt, hN⟩ := HX.out
      have hun3 : (writeS S' (a + 2 + (sc : Nat)) st).un.length ≤ S.un.length + (laid + 1) := Nat.le_trans (writeS_un _ _ _) (by omega)
      by_cases hwe : writeE S' (a + 2 + (sc : Nat)) st = 0
      · rw [hwe]
        have hrun2 := layRun_good (a := a) (r := ring N T.start T.bs) (F := fz - f - (laid + 1)) (S := S') hlt hN (by rw [hsc, hst]; exact hwe)
        rw [hrun, hsc, hst] at hrun2
        obtain ⟨i3, hk3, hbr3⟩ := i2.count hbr2 hge.2.2
        have hz := i2.hbl.cell 0
        have hzf := i2.hbl.free 0
        have e8 : wrap64 ((laid : Int) + 1) = ((laid + 1 : Nat) : Int) := by unfold wrap64; omega
        have HE := Lib.hid (⟨(hk2.trans hk3), hc0, hlk, hlN2, hun3, hrun2.symm, hbr3, i3⟩ : KeepsFrom y5.heap.size W (W2.setCell ⟨bl, 0, none⟩ (.int .i64 ((laid + 1 : Nat) : Int))) ∧ (0 < cut (f + k) fz ∧ f + k + cut (f + k) fz ≤ fz) ∧ laid ≤ k ∧ laid < N ∧ (writeS S' (a + 2 + (sc : Nat)) st).un.length ≤ S.un.length + (laid + 1) ∧
          layRun N a (ring N T.start T.bs) fz (fz - f - (laid + 1)) (f + k + cut (f + k) fz) (laid + 1) (writeS S' (a + 2 + (sc : Nat)) st) = layT N a T S ∧ Has (W2.setCell ⟨bl, 0, none⟩ (.int .i64 ((laid + 1 : Nat) : Int))) br 36 [.int .i64 e0] ∧ LayI w B gT gR g gt N a T bt bl br bt2 bs2 fz fs (laid + 1) (writeS S' (a + 2 + (sc : Nat)) st) (W2.setCell ⟨bl, 0, none⟩ (.int .i64 ((laid + 1 : Nat) : Int))))
        clear hwe hrun2 hrun i3 hk3 hbr3 hh1 hh2 hh3 hh4 hh5 hh6 hh7 hh8 hc0 hlN2 hun hlk hlt hN hun3 i2 hk2 hbr2 fr2 fr2' dk2 m2 HX HW
        go_wp2
        gi_wp2
        obtain ⟨z1, z2, z3, z4, z5, z6, z7, z8⟩ := HE.out
        exact ⟨z1, k + cut (f + k) fz, laid + 1, _, by omega, z2.2, by omega, by omega, z5, z6, ⟨e0, z7⟩, z8⟩
      · have hE : layT N a T S = (writeS S' (a + 2 + (sc : Nat)) st, writeE S' (a + 2 + (sc : Nat)) st) := by
          have := layRun_bad (a := a) (r := ring N T.start T.bs) (F := fz - f - (laid + 1)) (S := S') hlt hN (by rw [hsc, hst]; exact hwe)
          rw [hrun, hsc, hst] at this
          exact this
        generalize writeE S' (a + 2 + (sc : Nat)) st = we at *
        obtain ⟨i3, hbr3, fr3⟩ := i2.store hbr2 hge.2.1 (.int .i64 we)
        have hz := hbr2.cell 0
        have hzf := hbr2.free 0
        have hk3 : KeepsFrom y5.heap.size W (W2.setCell ⟨br, 0, none⟩ (.int .i64 we)) := hk2.trans (keeps_fr fr3 (fun x hx => by
          rw [List.mem_singleton] at hx
          exact hx ▸ ⟨_, _, _, hbr2⟩))
        have HE := Lib.hid (⟨hk3, hE, i3, hbr3⟩ : KeepsFrom y5.heap.size W (W2.setCell ⟨br, 0, none⟩ (.int .i64 we)) ∧ layT N a T S = (writeS S' (a + 2 + (sc : Nat)) st, we) ∧ LayI w B gT gR g gt N a T bt bl br bt2 bs2 fz fs laid (writeS S' (a + 2 + (sc : Nat)) st) (W2.setCell ⟨br, 0, none⟩ (.int .i64 we)) ∧ Has (W2.setCell ⟨br, 0, none⟩ (.int .i64 we)) br 36 [.int .i64 we])
        clear hE i3 hbr3 fr3 hk3 hrun hh1 hh2 hh3 hh4 hh5 hh6 hh7 hh8 hc0 hlN2 hun hlk hlt hN hun3 i2 hk2 hbr2 fr2 fr2' dk2 m2 HX HW
        go_wp2
        gi_wp2
        obtain ⟨z1, z2, z3, z4⟩ := HE.out
        exact ⟨z1, laid, _, we, z2, z3, .inr ⟨rfl, z4⟩⟩
  case stop =>
    rintro D c W hD ⟨laid, S', e, h1, i, ⟨rfl, rfl, e0, hbr⟩ | ⟨rfl, hbr⟩⟩ hK
    · have c1 := hbr.cell 0
      have f1 := hbr.free 0
      obtain ⟨i2, h2, _⟩ := i.store hbr hge.2.1 (.int .i64 0)
      have hK2 : (W.setCell ⟨br, 0, none⟩ (.int .i64 0)).heap[D]? = some (.deferred (some [])) := (Below.heap_setCell W _ _ D (Ne.symm (mark_ne (Row.of_has hbr) hK))).trans hK
      obtain ⟨z1, z2⟩ := i2.ends h2 (Nat.le_trans u5.size hD) hK2
      refine wpIn_wide.2 ?_
      go_wp2
      refine post_mark rfl hK2 (res_cell rfl rfl z1) ?_
      rw [h1]
      exact ⟨rfl, z2⟩
    · obtain ⟨z1, z2⟩ := i.ends hbr (Nat.le_trans u5.size hD) hK
      refine wpIn_wide.2 ?_
      go_wp2
      refine post_mark rfl hK (res_cell rfl rfl z1) ?_
      rw [h1]
      exact ⟨rfl, z2⟩
  case done =>
    rintro D W hD ⟨k, laid, S', h1, h2, h3, h4, h5, h6, ⟨e0, hbr⟩, i⟩ hK
    rw [layRun_end _ _ _ _ _ _ _ _ (Nat.le_refl _)] at h6
    have c1 := hbr.cell 0
    have f1 := hbr.free 0
    obtain ⟨i2, h2', _⟩ := i.store hbr hge.2.1 (.int .i64 0)
    have hK2 : (W.setCell ⟨br, 0, none⟩ (.int .i64 0)).heap[D]? = some (.deferred (some [])) := (Below.heap_setCell W _ _ D (Ne.symm (mark_ne (Row.of_has hbr) hK))).trans hK
    obtain ⟨z1, z2⟩ := i2.ends h2' (Nat.le_trans u5.size hD) hK2
    clear h1
    go_wp2
    refine post_mark rfl hK2 (res_cell rfl rfl z1) ?_
    rw [← h6]
    exact ⟨rfl, z2⟩
end
end TL2
end Go.Proofs.Ytkhdidhpcdlmcaa
