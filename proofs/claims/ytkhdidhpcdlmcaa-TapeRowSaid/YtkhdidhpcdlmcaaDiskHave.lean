/- The calls on a disk that lies among other things; those on no disk. -/
import Derived.Test.YtkhdidhpcdlmcaaDiskCopy
import Derived.Test.YtkhdidhpcdlmcaaDiskNew
import Derived.Test.YtkhdidhpcdlmcaaMany
namespace Go.Proofs.Ytkhdidhpcdlmcaa
open Go.RowKit Go.Lib MM MF DM DK DN FL DW DF DU MS DC MY
namespace DH
section
variable {w0 w w' : World} {fs : List Nat}
theorem src_stays {v : Value} {l : List UInt8} (h : Src w v l) (k : Fr w w' fs) (hn : 0 < l.length → ∀ x ∈ fs, v.ownBlock ≠ some x) : Src w' v l := by
  rcases h with h | ⟨h0, b, off, cap, rfl, h1, h2, h3, h4⟩
  · exact .inl h
  · exact .inr ⟨h0, b, off, cap, rfl, h1, h2, Nat.lt_of_lt_of_le h3 k.size, fun i hi => (k.cell (p := ⟨b, off + i, none⟩) h3 (fun hm => hn h0 b hm rfl)).trans (h4 i hi)⟩
/-- Fates that lay there ahead of all. -/
theorem src_under {v : Value} {l : List UInt8} (h : Src w0 v l) (b : Below w0.heap.size w0 w) : Src w v l := src_stays h (Fr.of_below b []) (by simp)
end
end DH
open DH
namespace DP
/-- The disk S at g, as a thing. -/
def Di (B g : Nat) (S : St) (w : World) (fs : List Nat) : Prop := Dk w B g S fs
theorem di_kp (B g : Nat) (S : St) : Kp B (Di B g S) := ⟨fun _ _ h => Dk.mem h, fun _ _ _ _ h k hn => Dk.kept h k hn⟩
section
variable {w0 w w' : World} {g : Nat} {S S' : St} {Ps : List (World → List Nat → Prop)}
theorem di_ok (h : All w0 w (Di w0.heap.size g S :: Ps)) : S.Ok := by obtain ⟨f, d, _⟩ := h.opened; exact Dk.ok d
theorem di_new (h : All w0 w Ps) (n : Nat) (i : Int) (hi : (n : Int) = i) (h1 : 1 ≤ n) (h2 : n ≤ 4096) : Calls Try.prog 27 #[.int .i64 i] w fun e w' => ∃ g, e = .returned (.pointer (some ⟨g, 0, none⟩)) ∧ All w0 w' (Di w0.heap.size g (fresh n) :: Ps) := by
  subst hi
  refine (new_walk n h1 h2 w).mono ?_
  rintro e w' ⟨g, fs, rfl, d, b⟩
  have hm := fun x hx => (d.mem x hx).1
  obtain ⟨gn, cn, gf, cf, vu, q1, q2, q3, q4, q5, q6, q7, q8, hg, hnn, hf, hu, b1, b2, b3, hfs⟩ := d
  have hs := h.under.size
  refine ⟨g, rfl, h.made b (f := fs) (di_kp _ _ _) ⟨gn, cn, gf, cf, vu, q1, q2, q3, q4, q5, q6, q7, q8, hg, hnn, hf, ?_, by omega, by omega, by omega, hfs⟩ hm⟩
  refine ⟨hu.1, ?_⟩
  rcases hu.2 with hl | ⟨g', cap, cur, hv, hB, rest⟩
  · exact .inl hl
  · exact .inr ⟨g', cap, cur, hv, by omega, rest⟩
theorem di_copy (h : All w0 w (Di w0.heap.size g S :: Ps)) : Calls Try.prog 8 #[.pointer (some ⟨g, 0, none⟩)] w fun e w' => ∃ g2, e = .returned (.pointer (some ⟨g2, 0, none⟩)) ∧ All w0 w' (Di w0.heap.size g2 S :: Di w0.heap.size g S :: Ps) := by
  obtain ⟨f, d, _⟩ := h.opened
  refine (copy_walk w _ g S f d).mono ?_
  rintro e w' ⟨g2, fs, rfl, d2, b⟩
  have hm := fun x hx => (d2.mem x hx).1
  obtain ⟨gn, cn, gf, cf, vu, q1, q2, q3, q4, q5, q6, q7, q8, hg, hnn, hf, hu, b1, b2, b3, hfs⟩ := d2
  have hs := h.under.size
  refine ⟨g2, rfl, h.made b (f := fs) (di_kp _ _ _) ⟨gn, cn, gf, cf, vu, q1, q2, q3, q4, q5, q6, q7, q8, hg, hnn, hf, ?_, by omega, by omega, by omega, hfs⟩ hm⟩
  refine ⟨hu.1, ?_⟩
  rcases hu.2 with hl | ⟨g', cap, cur, hv, hB, rest⟩
  · exact .inl hl
  · exact .inr ⟨g', cap, cur, hv, by omega, rest⟩
theorem di_next {f : List Nat} (k : ∀ w' P' f1', Kp w0.heap.size P' → P' w' f1' → Fr w w' f → (∀ x ∈ f1', x ∈ f ∨ w.heap.size ≤ x) → All w0 w' (P' :: Ps)) (h : After w w' w0.heap.size g S' f) : All w0 w' (Di w0.heap.size g S' :: Ps) := by
  obtain ⟨f', d', fr, hm⟩ := h
  exact k w' _ f' (di_kp _ _ _) d' fr hm
theorem di_write (h : All w0 w (Di w0.heap.size g S :: Ps)) (i : Int) (l : List UInt8) (hlen : S.un.length < 1000000000) : Calls Try.prog 110 #[.pointer (some ⟨g, 0, none⟩), .int .i64 i, .string ⟨l.toArray⟩] w fun e w' => e = .returned (.int .i64 (writeE S i l)) ∧ All w0 w' (Di w0.heap.size g (writeS S i l) :: Ps) := by
  obtain ⟨f, d, k⟩ := h.opened
  exact (write_walk w _ g S f d i l hlen).mono fun e w' ⟨he, ha⟩ => ⟨he, di_next k ha⟩
theorem di_flush (h : All w0 w (Di w0.heap.size g S :: Ps)) : Calls Try.prog 58 #[.pointer (some ⟨g, 0, none⟩)] w fun e w' => e = .returned (.int .i64 (flushE S)) ∧ All w0 w' (Di w0.heap.size g (flushS S) :: Ps) := by
  obtain ⟨f, d, k⟩ := h.opened
  exact (flush_walk w _ g S f d).mono fun e w' ⟨he, ha⟩ => ⟨he, di_next k ha⟩
theorem di_off (h : All w0 w (Di w0.heap.size g S :: Ps)) : Calls Try.prog 18 #[.pointer (some ⟨g, 0, none⟩)] w fun e w' => e = .returned (.tuple #[]) ∧ All w0 w' (Di w0.heap.size g { S with on := false, fuse := 0 } :: Ps) := by
  obtain ⟨f, d, k⟩ := h.opened
  exact (off_walk d).mono fun e w' ⟨he, ha⟩ => ⟨he, di_next k ha⟩
theorem di_arm (h : All w0 w (Di w0.heap.size g S :: Ps)) (n : Int) (hn : n ≤ 9223372036854775807) : Calls Try.prog 16 #[.pointer (some ⟨g, 0, none⟩), .int .i64 n] w fun e w' => e = .returned (.tuple #[]) ∧ All w0 w' (Di w0.heap.size g { S with fuse := n.toNat } :: Ps) := by
  obtain ⟨f, d, k⟩ := h.opened
  exact (arm_walk d n hn).mono fun e w' ⟨he, ha⟩ => ⟨he, di_next k ha⟩
theorem di_read (h : All w0 w (Di w0.heap.size g S :: Ps)) (i : Int) : Calls Try.prog 106 #[.pointer (some ⟨g, 0, none⟩), .int .i64 i] w fun e w' => e = .returned (.tuple #[.string ⟨(readT S i).toArray⟩, .int .i64 (refuse S i)]) ∧ w = w' := by
  obtain ⟨f, d, _⟩ := h.opened
  exact read_walk d i
theorem di_on (h : All w0 w (Di w0.heap.size g S :: Ps)) : Calls Try.prog 17 #[.pointer (some ⟨g, 0, none⟩)] w fun e w' => e = .returned (.bool S.on) ∧ w = w' := by
  obtain ⟨f, d, _⟩ := h.opened
  exact on_walk d
theorem di_len (h : All w0 w (Di w0.heap.size g S :: Ps)) : Calls Try.prog 94 #[.pointer (some ⟨g, 0, none⟩)] w fun e w' => e = .returned (.int .i64 S.fl.length) ∧ w = w' := by
  obtain ⟨f, d, _⟩ := h.opened
  exact len_walk d
theorem di_wake (h : All w0 w (Di w0.heap.size g S :: Ps)) (v : Value) (cs : List UInt8) (hcs : cs.length ≤ 9223372036854775807) (hs : Src w v cs) (hn : 0 < cs.length → ∀ fs, Di w0.heap.size g S w fs → ∀ x ∈ fs, v.ownBlock ≠ some x) : Calls Try.prog 19 #[.pointer (some ⟨g, 0, none⟩), v] w fun e w' => e = .returned (.tuple #[]) ∧ All w0 w' (Di w0.heap.size g (wakeS S cs) :: Ps) := by
  obtain ⟨f, d, k⟩ := h.opened
  exact (wake_walk w _ g S f d v cs hcs (fun w' fr => src_stays hs fr (fun h0 => hn h0 f d))).mono fun e w' ⟨he, ha⟩ => ⟨he, di_next k ha⟩
theorem di_wake_nil (h : All w0 w (Di w0.heap.size g S :: Ps)) : Calls Try.prog 19 #[.pointer (some ⟨g, 0, none⟩), .slice none 0 0] w fun e w' => e = .returned (.tuple #[]) ∧ All w0 w' (Di w0.heap.size g (wakeS S []) :: Ps) :=
  di_wake h _ [] (by simp) (.inl ⟨rfl, none, 0, rfl⟩) (fun h0 => by simp at h0)
/-- Fates that lay there ahead of all. -/
theorem di_wake_old (h : All w0 w (Di w0.heap.size g S :: Ps)) (v : Value) (cs : List UInt8) (hcs : cs.length ≤ 9223372036854775807) (hs : Src w0 v cs) : Calls Try.prog 19 #[.pointer (some ⟨g, 0, none⟩), v] w fun e w' => e = .returned (.tuple #[]) ∧ All w0 w' (Di w0.heap.size g (wakeS S cs) :: Ps) := by
  refine di_wake h v cs hcs (src_under hs h.under) ?_
  intro h0 fs d x hx e
  rcases hs with ⟨rfl, _⟩ | ⟨_, b, off, cap, rfl, _, _, h3, _⟩
  · simp at h0
  · have := (Dk.mem d x hx).1
    simp [Value.ownBlock] at e
    omega
/-- Fates in a block of their own, whichever one it is. -/
theorem di_wake_in (h : All w0 w (Di w0.heap.size g S :: Ps)) (cs : List UInt8) (h0 : 0 < cs.length) (hcs : cs.length ≤ maxLen) (b n c : Nat) (hn : n = cs.length) (hcap : c = cs.length) (t : TypeId) (ht : t = 5) (hb : Has w b t (byteCells cs)) : Calls Try.prog 19 #[.pointer (some ⟨g, 0, none⟩), .slice (some ⟨b, 0, none⟩) n c] w fun e w' => e = .returned (.tuple #[]) ∧ All w0 w' (Di w0.heap.size g (wakeS S cs) :: Ps) := by
  subst hn hcap ht
  refine di_wake h _ cs (by unfold maxLen at hcs; omega) ?_ ?_
  · exact .inr ⟨h0, _, _, _, rfl, Nat.le_refl _, hcs, hb.lt, fun i hi => by rw [Nat.zero_add, hb.cell i]; simp [byteCells, hi]⟩
  · intro _ fs d x hx e
    simp [Value.ownBlock] at e
    subst e
    have d' : Dk w w0.heap.size g S fs := d
    obtain ⟨gn, cn, gf, cf, n, vu, h1, h2, hn, h3, h3', h4, h5, h6, h7, h8, n1, n2, n3, n4, n5, hg, hnn, hfl, hu, b1, b2, b3, hfs⟩ := d'.opened
    rw [hfs] at hx
    simp at hx
    rcases hx with hx | hx | hx | hx
    · exact has_ne hg (Row.of_has (hx ▸ hb)) (by decide) rfl
    · exact has_ne (hx ▸ hb) hnn (by decide) rfl
    · exact has_ne (hx ▸ hb) hfl (by decide) rfl
    · exact own_ne hu (Row.of_has hb) (by decide) hx
end
/-! ### No disk -/
theorem nil_arm (w : World) (n : Int) : Calls Try.prog 16 #[.pointer none, .int .i64 n] w fun e w' => e = .returned (.tuple #[]) ∧ w = w' := by
  go_enter Try.func16, Try.ntmps16
  go_wp2
  go_end0
  exact ⟨rfl, rfl⟩
theorem nil_off (w : World) : Calls Try.prog 18 #[.pointer none] w fun e w' => e = .returned (.tuple #[]) ∧ w = w' := by
  go_enter Try.func18, Try.ntmps18
  go_wp2
  go_end0
  exact ⟨rfl, rfl⟩
theorem nil_wake (w : World) (v : Value) : Calls Try.prog 19 #[.pointer none, v] w fun e w' => e = .returned (.tuple #[]) ∧ w = w' := by
  go_enter Try.func19, Try.ntmps19
  go_wp2
  refine bodyPost_ret (results_none rfl _ _ _) rfl ?_
  exact ⟨rfl, rfl⟩
theorem nil_len (w : World) : Calls Try.prog 94 #[.pointer none] w fun e w' => e = .returned (.int .i64 0) ∧ w = w' := by
  go_enter Try.func94, Try.ntmps94
  go_wp2
  go_ret
  exact ⟨rfl, rfl⟩
theorem nil_on (w : World) : Calls Try.prog 17 #[.pointer none] w fun e w' => e = .returned (.bool false) ∧ w = w' := by
  go_enter Try.func17, Try.ntmps17
  go_wp2
  go_ret
  exact ⟨rfl, rfl⟩
theorem nil_flush (w : World) : Calls Try.prog 58 #[.pointer none] w fun e w' => e = .returned (.int .i64 1) ∧ w = w' := by
  go_enter Try.func58, Try.ntmps58
  go_wp2
  go_ret
  exact ⟨rfl, rfl⟩
theorem nil_refusal (w : World) (n : Int) : Calls Try.prog 129 #[.pointer none, .int .i64 n] w fun e w' => e = .returned (.int .i64 1) ∧ w = w' := by
  go_enter Try.func129, Try.ntmps129
  go_wp2
  go_ret
  exact ⟨rfl, rfl⟩
theorem nil_read (w : World) (n : Int) : Calls Try.prog 106 #[.pointer none, .int .i64 n] w fun e w' => e = .returned (.tuple #[.string ⟨#[]⟩, .int .i64 1]) ∧ w = w' := by
  go_enter Try.func106, Try.ntmps106
  go_wp2_with fail
  refine (nil_refusal _ _).mono ?_
  rintro e w' ⟨rfl, rfl⟩
  go_wp2
  go_ret2
  exact ⟨rfl, rfl⟩
theorem nil_write (w : World) (n : Int) (v : Value) : Calls Try.prog 110 #[.pointer none, .int .i64 n, v] w fun e w' => e = .returned (.int .i64 1) ∧ w = w' := by
  go_enter Try.func110, Try.ntmps110
  go_wp2_with fail
  refine (nil_refusal _ _).mono ?_
  rintro e w' ⟨rfl, rfl⟩
  go_wp2
  go_ret
  exact ⟨rfl, rfl⟩
end DP
end Go.Proofs.Ytkhdidhpcdlmcaa
