/- A disk in memory: where its cells lie, and what a call may have turned of it. Its plain calls: Len, On, refusal, Read, Arm, Off, operate. -/
import Derived.Test.YtkhdidhpcdlmcaaFoot
import Derived.Test.YtkhdidhpcdlmcaaDiskMath
namespace Go.Proofs.Ytkhdidhpcdlmcaa
set_option maxRecDepth 100000
open Go.RowKit Go.Lib MM MF DM
namespace DK
/-- The cells of the writes that are unflushed. -/
def wcells (u : List (Nat × List UInt8)) : List Value := (u.map fun x => Value.int .i64 x.1 :: byteCells x.2).flatten
/-- At block g lies a disk that is S; all its blocks, and no others, are fs, all from B on. -/
def Dk (w : World) (B g : Nat) (S : St) (fs : List Nat) : Prop :=
  ∃ (gn cn gf cf : Nat) (vu : Value), S.Ok ∧ S.un.length ≤ 1000000000 ∧ 1 ≤ S.fl.length ∧ S.fl.length ≤ cn ∧ S.fl.length ≤ cf ∧ cn ≤ maxLen ∧ cf ≤ maxLen ∧ gn ≠ gf ∧
    Has w g 68 [.slice (some ⟨gn, 0, none⟩) S.fl.length cn, .slice (some ⟨gf, 0, none⟩) S.fl.length cf, vu, .bool S.on, .int .i64 S.fuse] ∧
    Row w gn 71 (byteCells S.now.flatten) ∧ Row w gf 71 (byteCells S.fl.flatten) ∧ w.ownsRow B 76 129 vu S.un.length (wcells S.un) ∧
    B ≤ g ∧ B ≤ gn ∧ B ≤ gf ∧ fs = g :: gn :: gf :: vu.ownBlock.toList
/-- What a call on the disk at g leaves: it is S, in blocks that it had, or new ones; nothing else has turned. -/
def After (w w' : World) (B g : Nat) (S : St) (fs : List Nat) : Prop := ∃ fs', Dk w' B g S fs' ∧ Fr w w' fs ∧ ∀ x ∈ fs', x ∈ fs ∨ w.heap.size ≤ x

theorem has_ne {w : World} {g h : Nat} {t u : TypeId} {cs ds : List Value} (a : Has w g t cs) (b : Row w h u ds) (hne : t ≠ u) : g ≠ h := by
  rintro rfl
  obtain ⟨r, b⟩ := b
  unfold Has at a
  rw [a] at b
  injection b with b
  injection b with _ b
  exact hne b
theorem own_ne {w : World} {B h n size : Nat} {t u : TypeId} {v : Value} {cs ds : List Value} (a : w.ownsRow B t size v n cs) (b : Row w h u ds) (hne : t ≠ u) : v.ownBlock ≠ some h := by
  rcases a.2 with ⟨rfl, _⟩ | ⟨g', cap, cur, rfl, _, hh, _⟩
  · simp [Value.ownBlock]
  · intro he
    have : g' = h := by simpa [Value.ownBlock] using he
    subst this
    obtain ⟨r, b⟩ := b
    rw [hh] at b
    injection b with b
    injection b with _ b
    exact hne b
section
variable {w w' : World} {B g : Nat} {S : St} {fs : List Nat}
theorem Dk.ok (h : Dk w B g S fs) : S.Ok := by obtain ⟨_, _, _, _, _, h, _⟩ := h; exact h
theorem Dk.mem (h : Dk w B g S fs) : ∀ x ∈ fs, B ≤ x ∧ x < w.heap.size := by
  obtain ⟨gn, cn, gf, cf, vu, _, _, _, _, _, _, _, _, hg, hn, hf, hu, b1, b2, b3, rfl⟩ := h
  intro x hx
  simp only [List.mem_cons, Option.mem_toList] at hx
  rcases hx with rfl | rfl | rfl | hx
  · exact ⟨b1, hg.lt⟩
  · exact ⟨b2, hn.lt⟩
  · exact ⟨b3, hf.lt⟩
  · exact hu.lt x hx
theorem Dk.head (h : Dk w B g S fs) : g ∈ fs := by
  obtain ⟨_, _, _, _, _, _, _, _, _, _, _, _, _, _, _, _, _, _, _, _, rfl⟩ := h
  simp
theorem Dk.lt (h : Dk w B g S fs) : g < w.heap.size := (h.mem g h.head).2
theorem Dk.base (h : Dk w B g S fs) : B ≤ w.heap.size := by have := h.mem g h.head; omega
/-- What turned none of its blocks. -/
theorem Dk.kept {gs : List Nat} (h : Dk w B g S fs) (k : Fr w w' gs) (hn : ∀ x ∈ fs, x ∉ gs) : Dk w' B g S fs := by
  obtain ⟨gn, cn, gf, cf, vu, h1, h2, h3, h4, h5, h6, h7, h8, hg, hnn, hf, hu, b1, b2, b3, rfl⟩ := h
  exact ⟨gn, cn, gf, cf, vu, h1, h2, h3, h4, h5, h6, h7, h8, k.has hg (hn _ (by simp)), hnn.kept k (hn _ (by simp)), hf.kept k (hn _ (by simp)), k.owns hu (fun x hx => hn x (by simp [hx])), b1, b2, b3, rfl⟩
theorem Dk.below (h : Dk w B g S fs) (k : Below w.heap.size w w') : Dk w' B g S fs := h.kept (Fr.of_below k []) (by simp)
theorem Dk.alloc (h : Dk w B g S fs) (o : Obj) : Dk (w.alloc o) B g S fs := h.kept ((Fr.refl w []).alloc o) (by simp)
theorem Dk.drew (h : Dk w B g S fs) : Dk w.drew B g S fs := h.kept (Fr.refl w []).drew (by simp)
theorem Dk.drewN (h : Dk w B g S fs) (n : Nat) : Dk (w.drewN n) B g S fs := h.kept ((Fr.refl w []).drewN n) (by simp)
/-- Two things that share no block share none behind a call on one of them. -/
theorem apart_next {fs fs' gs : List Nat} (ha : ∀ x ∈ gs, x ∉ fs) (hl : ∀ x ∈ gs, x < w.heap.size) (hn : ∀ x ∈ fs', x ∈ fs ∨ w.heap.size ≤ x) : ∀ x ∈ gs, x ∉ fs' := by
  intro x hx hm
  rcases hn x hm with h | h
  · exact ha x hx h
  · have := hl x hx; omega
theorem After.refl (h : Dk w B g S fs) : After w w B g S fs := ⟨fs, h, Fr.refl _ _, fun _ hx => .inl hx⟩

/-- A disk laid open, as a walk wants it. -/
theorem Dk.opened (h : Dk w B g S fs) : ∃ (gn cn gf cf n : Nat) (vu : Value), S.Ok ∧ S.un.length ≤ 1000000000 ∧ n = S.fl.length ∧ 1 ≤ n ∧ n ≤ 4096 ∧ n ≤ cn ∧ n ≤ cf ∧ cn ≤ maxLen ∧ cf ≤ maxLen ∧ gn ≠ gf ∧ g ≠ gn ∧ g ≠ gf ∧
    vu.ownBlock ≠ some g ∧ vu.ownBlock ≠ some gn ∧ vu.ownBlock ≠ some gf ∧
    Has w g 68 [.slice (some ⟨gn, 0, none⟩) n cn, .slice (some ⟨gf, 0, none⟩) n cf, vu, .bool S.on, .int .i64 S.fuse] ∧
    Row w gn 71 (byteCells S.now.flatten) ∧ Row w gf 71 (byteCells S.fl.flatten) ∧ w.ownsRow B 76 129 vu S.un.length (wcells S.un) ∧
    B ≤ g ∧ B ≤ gn ∧ B ≤ gf ∧ fs = g :: gn :: gf :: vu.ownBlock.toList := by
  obtain ⟨gn, cn, gf, cf, vu, h1, h2, h3, h4, h5, h6, h7, h8, hg, hnn, hf, hu, b1, b2, b3, hfs⟩ := h
  exact ⟨gn, cn, gf, cf, _, vu, h1, h2, rfl, h3, h1.2.2.1, h4, h5, h6, h7, h8, has_ne hg hnn (by decide), has_ne hg hf (by decide), own_ne hu (Row.of_has hg) (by decide), own_ne hu hnn (by decide), own_ne hu hf (by decide), hg, hnn, hf, hu, b1, b2, b3, hfs⟩
/-- The five cells of the head. -/
theorem head_cells {a b c d e : Value} (h : Has w g 68 [a, b, c, d, e]) : w.cell? ⟨g, 0, none⟩ = some a ∧ w.cell? ⟨g, 1, none⟩ = some b ∧ w.cell? ⟨g, 2, none⟩ = some c ∧ w.cell? ⟨g, 3, none⟩ = some d ∧ w.cell? ⟨g, 4, none⟩ = some e ∧
    w.frozen? ⟨g, 0, none⟩ = false ∧ w.frozen? ⟨g, 1, none⟩ = false ∧ w.frozen? ⟨g, 2, none⟩ = false ∧ w.frozen? ⟨g, 3, none⟩ = false ∧ w.frozen? ⟨g, 4, none⟩ = false :=
  ⟨h.cell 0, h.cell 1, h.cell 2, h.cell 3, h.cell 4, h.free 0, h.free 1, h.free 2, h.free 3, h.free 4⟩
/-- The head alone turns: its power, its fuse. -/
theorem Dk.flags (h : Dk w B g S fs) (on : Bool) (fuse : Nat) (hf : fuse ≤ 9223372036854775807) (k : Fr w w' [g]) (hh : ∀ (a b c : Value), Has w g 68 [a, b, c, .bool S.on, .int .i64 S.fuse] → Has w' g 68 [a, b, c, .bool on, .int .i64 fuse]) :
    After w w' B g { S with on := on, fuse := fuse } fs := by
  obtain ⟨gn, cn, gf, cf, n, vu, h1, h2, rfl, h3, h3', h4, h5, h6, h7, h8, n1, n2, n3, n4, n5, hg, hnn, hfl, hu, b1, b2, b3, rfl⟩ := h.opened
  refine ⟨_, ⟨gn, cn, gf, cf, vu, ⟨h1.1, h1.2.1, h1.2.2.1, hf⟩, h2, h3, h4, h5, h6, h7, h8, hh _ _ _ hg, hnn.kept k (by simpa using Ne.symm n1), hfl.kept k (by simpa using Ne.symm n2), k.owns hu (fun x hx => ?_), b1, b2, b3, rfl⟩, k.more (fun x hx _ => by simp at hx; simp [hx]), fun _ hx => .inl hx⟩
  intro hm
  simp at hm
  subst hm
  exact n3 hx
/-- One call behind another. -/
theorem After.next {w2 : World} {S2 : St} {f1 : List Nat} (r1 : Fr w w' fs) (m1 : ∀ x ∈ f1, x ∈ fs ∨ w.heap.size ≤ x) (k : After w' w2 B g S2 f1) : After w w2 B g S2 fs := by
  obtain ⟨f2, d2, r2, m2⟩ := k
  refine ⟨f2, d2, r1.trans r2 m1, fun x hx => ?_⟩
  rcases m2 x hx with h | h
  · exact m1 x h
  · exact .inr (Nat.le_trans r1.size h)
end

/-! ### Plain calls -/
def refuse (S : St) (i : Int) : Int := if S.on = false then 8 else if i < 0 ∨ (S.fl.length : Int) ≤ i then 6 else 0
theorem refuse_off {S : St} {i : Int} (h : S.on = false) : refuse S i = 8 := by unfold refuse; rw [if_pos h]
theorem refuse_out {S : St} {i : Int} (h : S.on = true) (hi : i < 0 ∨ (S.fl.length : Int) ≤ i) : refuse S i = 6 := by unfold refuse; rw [if_neg (by simp [h]), if_pos hi]
theorem refuse_in {S : St} {i : Int} (h : S.on = true) (h0 : 0 ≤ i) (hi : i < S.fl.length) : refuse S i = 0 := by unfold refuse; rw [if_neg (by simp [h]), if_neg (by omega)]
theorem ret_int {k : IntKind} {a b : Int} (h : a = b) : Ending.returned (.int k a) = .returned (.int k b) := by rw [h]

section
variable {w : World} {B g : Nat} {S : St} {fs : List Nat}
theorem len_walk (h : Dk w B g S fs) : Calls Try.prog 94 #[.pointer (some ⟨g, 0, none⟩)] w fun e w' => e = .returned (.int .i64 S.fl.length) ∧ w = w' := by
  obtain ⟨gn, cn, gf, cf, n, vu, h1, h2, hn, h3, h3', h4, h5, h6, h7, h8, n1, n2, n3, n4, n5, hg, hnn, hfl, hu, b1, b2, b3, rfl⟩ := h.opened
  obtain ⟨c0, c1, c2, c3, c4, f0, f1, f2, f3, f4⟩ := head_cells hg
  have HN := Lib.hid hn
  clear hn hg hnn hfl hu n3 n4 n5 h
  go_enter Try.func94, Try.ntmps94
  go_wp2
  go_ret
  exact ⟨ret_int (by rw [HN.out]), rfl⟩
theorem on_walk (h : Dk w B g S fs) : Calls Try.prog 17 #[.pointer (some ⟨g, 0, none⟩)] w fun e w' => e = .returned (.bool S.on) ∧ w = w' := by
  obtain ⟨gn, cn, gf, cf, n, vu, h1, h2, hn, h3, h3', h4, h5, h6, h7, h8, n1, n2, n3, n4, n5, hg, hnn, hfl, hu, b1, b2, b3, rfl⟩ := h.opened
  obtain ⟨c0, c1, c2, c3, c4, f0, f1, f2, f3, f4⟩ := head_cells hg
  have HN := Lib.hid hn
  clear hn hg hnn hfl hu n3 n4 n5 h
  go_enter Try.func17, Try.ntmps17
  go_wp2
  go_ret
  exact ⟨rfl, rfl⟩
theorem refusal_walk (h : Dk w B g S fs) (i : Int) : Calls Try.prog 129 #[.pointer (some ⟨g, 0, none⟩), .int .i64 i] w fun e w' => e = .returned (.int .i64 (refuse S i)) ∧ w = w' := by
  obtain ⟨gn, cn, gf, cf, n, vu, h1, h2, hn, h3, h3', h4, h5, h6, h7, h8, n1, n2, n3, n4, n5, hg, hnn, hfl, hu, b1, b2, b3, rfl⟩ := h.opened
  obtain ⟨c0, c1, c2, c3, c4, f0, f1, f2, f3, f4⟩ := head_cells hg
  clear hg hnn hfl hu n3 n4 n5 h
  cases hon : S.on with
  | false =>
    have HR := Lib.hid (refuse_off (i := i) hon)
    have HN := Lib.hid hn
    rw [hon] at c3
    clear hon hn
    go_enter Try.func129, Try.ntmps129
    go_wp2
    go_ret
    exact ⟨ret_int HR.out.symm, rfl⟩
  | true =>
    rw [hon] at c3
    by_cases hi : i < 0 ∨ (n : Int) ≤ i
    · have HR := Lib.hid (refuse_out (i := i) hon (by omega))
      clear hon hn
      rcases hi with hi | hi
      · go_enter Try.func129, Try.ntmps129
        go_wp2
        go_ret
        exact ⟨ret_int HR.out.symm, rfl⟩
      · have h0 : ¬ i < 0 := by omega
        go_enter Try.func129, Try.ntmps129
        go_wp2
        go_ret
        exact ⟨ret_int HR.out.symm, rfl⟩
    · have HR := Lib.hid (refuse_in (i := i) hon (by omega) (by omega))
      have ha : ¬ i < 0 := by omega
      have hb : ¬ (n : Int) ≤ i := by omega
      clear hon hn hi
      go_enter Try.func129, Try.ntmps129
      go_wp2
      go_ret
      exact ⟨ret_int HR.out.symm, rfl⟩

/-- What a Read tells. -/
def readT (S : St) (i : Int) : List UInt8 := if refuse S i = 0 then S.now.getD i.toNat [] else []
theorem readT_not {S : St} {i : Int} (h : refuse S i ≠ 0) : readT S i = [] := by unfold readT; rw [if_neg h]
theorem ret_read {l l' : List UInt8} {a b : Int} (h : l = l') (k : a = b) : Ending.returned (.tuple #[.string ⟨l.toArray⟩, .int .i64 a]) = .returned (.tuple #[.string ⟨l'.toArray⟩, .int .i64 b]) := by rw [h, k]
/-- 'string(p[:])' of bytes that lie somewhere. -/
theorem string_of_range {w : World} {b o : Nat} {l : List UInt8} (h : w.rangeAt b o (byteCells l)) (cap : Nat) :
    (convert 23 9 (.slice (some ⟨b, o, none⟩) l.length cap)).run Try.prog w = .ok (.string ⟨l.toArray⟩) w :=
  run_convert_bytes_back w 23 9 5 ⟨b, o, none⟩ cap l rfl rfl rfl fun j hj => by
    rw [Addr.add_mid]
    exact h j _ (by simp [byteCells, hj])
/-- A row's bytes, out of all. -/
theorem range_of_row {w : World} {b : Nat} {t : TypeId} {L : List (List UInt8)} (h : Row w b t (byteCells L.flatten)) (hr : ∀ r ∈ L, r.length = 128) (k : Nat) (hk : k < L.length) : w.rangeAt b (128 * k) (byteCells L[k]) :=
  h.range _ _ fun j hj => by
    have hl : L[k].length = 128 := hr _ (List.getElem_mem hk)
    have hj' : j < 128 := by simpa [byteCells, hl] using hj
    unfold byteCells
    rw [List.getElem?_map, List.getElem?_map, flat_at L k hk hr j hj']
theorem read_walk (h : Dk w B g S fs) (i : Int) : Calls Try.prog 106 #[.pointer (some ⟨g, 0, none⟩), .int .i64 i] w fun e w' => e = .returned (.tuple #[.string ⟨(readT S i).toArray⟩, .int .i64 (refuse S i)]) ∧ w = w' := by
  have HC := Lib.hid (refusal_walk h i)
  obtain ⟨gn, cn, gf, cf, n, vu, h1, h2, hn, h3, h3', h4, h5, h6, h7, h8, n1, n2, n3, n4, n5, hg, hnn, hfl, hu, b1, b2, b3, rfl⟩ := h.opened
  by_cases hr : refuse S i = 0
  · have h0 : 0 ≤ i ∧ i < n := by
      unfold refuse at hr
      split at hr
      · omega
      · split at hr <;> omega
    obtain ⟨k, rfl⟩ := Int.eq_ofNat_of_zero_le h0.1
    have hk : k < S.now.length := by rw [St.now_length]; omega
    have hrow : S.now[k].length = 128 := h1.now_rows _ (List.getElem_mem hk)
    have hconv := string_of_range (range_of_row hnn h1.now_rows k hk) 128
    rw [hrow, Nat.mul_comm] at hconv
    have hread : readT S k = S.now[k] := by unfold readT; rw [if_pos hr, Int.toNat_natCast, List.getD_eq_getElem?_getD, List.getElem?_eq_getElem hk]; rfl
    obtain ⟨c0, c1, c2, c3, c4, f0, f1, f2, f3, f4⟩ := head_cells hg
    have hk' : k < n := by omega
    generalize S.now[k] = row at *
    have HR := Lib.hid hread
    have HZ := Lib.hid hr
    have HN := Lib.hid hn
    clear hn hg hnn hfl hu n3 n4 n5 h hread hr hrow h0
    go_enter Try.func106, Try.ntmps106
    go_wp2_with fail
    refine HC.out.mono ?_
    rintro e w' ⟨rfl, rfl⟩
    rw [HZ.out]
    go_wp2
    go_ret2
    exact ⟨ret_read HR.out.symm HZ.out.symm, rfl⟩
  · have HR := Lib.hid (readT_not hr)
    obtain ⟨c0, c1, c2, c3, c4, f0, f1, f2, f3, f4⟩ := head_cells hg
    have hne : (refuse S i != 0) = true := by simpa using hr
    generalize hq : refuse S i = r at *
    have HQ := Lib.hid hq
    clear hn hg hnn hfl hu n3 n4 n5 h hr hq
    go_enter Try.func106, Try.ntmps106
    go_wp2_with fail
    refine HC.out.mono ?_
    rintro e w' ⟨rfl, rfl⟩
    go_wp2
    go_ret2
    exact ⟨ret_read HR.out.symm rfl, rfl⟩

theorem off_walk (h : Dk w B g S fs) : Calls Try.prog 18 #[.pointer (some ⟨g, 0, none⟩)] w fun e w' => e = .returned (.tuple #[]) ∧ After w w' B g { S with on := false, fuse := 0 } fs := by
  have ho := h.flags (w' := (w.setCell ⟨g, 3, none⟩ (.bool false)).setCell ⟨g, 4, none⟩ (.int .i64 0)) false 0 (by omega) (((Fr.refl w [g]).setCell (by simp) _).setCell (by simp) _) (fun a b c hc => (hc.put 3 _).put 4 _)
  obtain ⟨gn, cn, gf, cf, n, vu, h1, h2, hn, h3, h3', h4, h5, h6, h7, h8, n1, n2, n3, n4, n5, hg, hnn, hfl, hu, b1, b2, b3, hfs⟩ := h.opened
  obtain ⟨c0, c1, c2, c3, c4, f0, f1, f2, f3, f4⟩ := head_cells hg
  have HO := Lib.hid ho
  clear hn hg hnn hfl hu n3 n4 n5 h ho hfs
  go_enter Try.func18, Try.ntmps18
  go_wp2
  go_end0
  exact ⟨rfl, HO.out⟩
theorem arm_walk (h : Dk w B g S fs) (n : Int) (hn : n ≤ 9223372036854775807) : Calls Try.prog 16 #[.pointer (some ⟨g, 0, none⟩), .int .i64 n] w fun e w' => e = .returned (.tuple #[]) ∧ After w w' B g { S with fuse := n.toNat } fs := by
  have ho := h.flags (w' := w.setCell ⟨g, 4, none⟩ (.int .i64 (n.toNat : Int))) S.on n.toNat (by omega) ((Fr.refl w [g]).setCell (by simp) _) (fun a b c hc => hc.put 4 _)
  obtain ⟨gn, cn, gf, cf, m, vu, h1, h2, hm, h3, h3', h4, h5, h6, h7, h8, n1, n2, n3, n4, n5, hg, hnn, hfl, hu, b1, b2, b3, hfs⟩ := h.opened
  obtain ⟨c0, c1, c2, c3, c4, f0, f1, f2, f3, f4⟩ := head_cells hg
  have HO := Lib.hid ho
  clear hm hg hnn hfl hu n3 n4 n5 h ho hfs
  rcases Int.lt_or_le 0 n with hp | hp
  · obtain ⟨k, rfl⟩ := Int.eq_ofNat_of_zero_le (show 0 ≤ n by omega)
    rw [Int.toNat_natCast] at *
    go_enter Try.func16, Try.ntmps16
    go_wp2
    go_end0
    exact ⟨rfl, HO.out⟩
  · rw [show n.toNat = 0 by omega] at *
    rcases Int.lt_or_eq_of_le hp with hp | rfl
    · go_enter Try.func16, Try.ntmps16
      go_wp2
      go_end0
      exact ⟨rfl, HO.out⟩
    · clear hp
      go_enter Try.func16, Try.ntmps16
      go_wp2
      go_end0
      exact ⟨rfl, HO.out⟩

/-! ### An operation -/
def opOk (S : St) : Bool := S.fuse != 1
def opS (S : St) : St := if S.fuse = 0 then S else if S.fuse = 1 then { S with on := false, fuse := 0 } else { S with fuse := S.fuse - 1 }
theorem operate_walk (h : Dk w B g S fs) (hon : S.on = true) : Calls Try.prog 111 #[.pointer (some ⟨g, 0, none⟩)] w fun e w' => e = .returned (.bool (opOk S)) ∧ After w w' B g (opS S) fs := by
  have hfu := h.ok.2.2.2
  have h' := h
  obtain ⟨gn, cn, gf, cf, m, vu, h1, h2, hm, h3, h3', h4, h5, h6, h7, h8, n1, n2, n3, n4, n5, hg, hnn, hfl, hu, b1, b2, b3, hfs⟩ := h.opened
  obtain ⟨c0, c1, c2, c3, c4, f0, f1, f2, f3, f4⟩ := head_cells hg
  rw [hon] at c3
  rcases Nat.eq_zero_or_pos S.fuse with hz | hz
  · have e1 : opOk S = true := by unfold opOk; rw [hz]; rfl
    have e2 : opS S = S := by unfold opS; rw [if_pos hz]
    have HE := Lib.hid (After.refl h')
    rw [e1, e2]
    rw [hz] at c4
    clear hm hg hnn hfl hu n3 n4 n5 h hfs e1 e2 h' hz hon
    go_enter Try.func111, Try.ntmps111
    go_wp2
    go_ret
    exact ⟨rfl, HE.out⟩
  · by_cases h1' : S.fuse = 1
    · have e1 : opOk S = false := by unfold opOk; rw [h1']; rfl
      have e2 : opS S = { S with on := false, fuse := 0 } := by unfold opS; rw [if_neg (by omega), if_pos h1']
      have ha := h'.flags (w' := w.setCell ⟨g, 4, none⟩ (.int .i64 ((0 : Nat) : Int))) S.on 0 (by omega) ((Fr.refl w [g]).setCell (by simp) _) (fun a b c hc => hc.put 4 _)
      obtain ⟨f1', d1, r1, m1⟩ := ha
      have HF := Lib.hid (off_walk d1)
      have HD := Lib.hid (show ∀ w2, After (w.setCell ⟨g, 4, none⟩ (.int .i64 ((0 : Nat) : Int))) w2 B g { S with on := false, fuse := 0 } f1' → After w w2 B g { S with on := false, fuse := 0 } fs ∧ w2.cell? ⟨g, 3, none⟩ = some (.bool false) from
        fun w2 x => ⟨After.next r1 m1 x, by obtain ⟨_, x, _, _⟩ := x; obtain ⟨_, _, _, _, _, _, _, _, _, _, _, _, _, _, _, _, _, _, _, _, _, hg', _⟩ := x.opened; exact hg'.cell 3⟩)
      rw [e1, e2]
      rw [h1'] at c4
      clear hm hg hnn hfl hu n3 n4 n5 h hfs e1 e2 h' hz hon d1 r1 m1 h1'
      go_enter Try.func111, Try.ntmps111
      go_wp2_with fail
      refine HF.out.mono ?_
      rintro e w2 ⟨rfl, hx⟩
      obtain ⟨hd, hc⟩ := HD.out w2 hx
      have HX := Lib.hid hd
      clear hx hd
      go_wp2
      go_ret
      exact ⟨rfl, HX.out⟩
    · have e1 : opOk S = true := by unfold opOk; simpa using h1'
      have e2 : opS S = { S with fuse := S.fuse - 1 } := by unfold opS; rw [if_neg (by omega), if_neg h1']
      have ha := h'.flags (w' := w.setCell ⟨g, 4, none⟩ (.int .i64 ((S.fuse - 1 : Nat) : Int))) S.on (S.fuse - 1) (by omega) ((Fr.refl w [g]).setCell (by simp) _) (fun a b c hc => hc.put 4 _)
      have HF := Lib.hid ha
      rw [e1, e2]
      clear hm hg hnn hfl hu n3 n4 n5 h hfs e1 e2 h' hon ha
      obtain ⟨k, hk⟩ : ∃ k, S.fuse = k + 2 := ⟨S.fuse - 2, by omega⟩
      rw [hk] at c4
      rw [hk] at HF
      clear h1' hz
      have hkb : k ≤ 9223372036854775805 := by omega
      have HK := Lib.hid hk
      clear hk hfu
      go_enter Try.func111, Try.ntmps111
      go_wp2
      go_ret
      refine ⟨rfl, ?_⟩
      rw [HK.out, show (k : Int) + 2 - 1 = ((k + 2 - 1 : Nat) : Int) by omega]
      exact HF.out
end
end DK
end Go.Proofs.Ytkhdidhpcdlmcaa
