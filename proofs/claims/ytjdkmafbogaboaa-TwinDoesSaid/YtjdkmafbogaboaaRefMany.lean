/- The calls on the document's disk that lies among other things. -/
import Derived.Test.YtjdkmafbogaboaaRefWake
namespace Go.Proofs.Ytjdkmafbogaboaa
open Go.RowKit Go.Lib MM MS MF DM DK DN FL DW DF DU MY DP RM RD RW DH
namespace RI
section
variable {w0 w w' : World} {g : Nat} {S S' : St} {Ps : List (World → List Nat → Prop)}
theorem ri_next {f : List Nat} (k : ∀ w' P' f1', Kp w0.heap.size P' → P' w' f1' → Fr w w' f → (∀ x ∈ f1', x ∈ f ∨ w.heap.size ≤ x) → All w0 w' (P' :: Ps)) (h : RAfter w w' w0.heap.size g S' f) : All w0 w' (Rf w0.heap.size g S' :: Ps) := by
  obtain ⟨f', d', fr, hm⟩ := h
  exact k w' _ f' (rf_kp _ _ _) d' fr hm
theorem rf_rebase {B B' : Nat} {w : World} {g : Nat} {S : St} {fs : List Nat} (h : Rf B g S w fs) (hB : B' ≤ B) : Rf B' g S w fs := by
  obtain ⟨vf, vw, h1, h2, h3, hg, hf, hu, hb, e⟩ := h
  have go : ∀ {e' : TypeId} {size n : Nat} {v : Value} {xs : List Value}, w.ownsRow B e' size v n xs → w.ownsRow B' e' size v n xs := by
    intro e' size n v xs h
    refine ⟨h.1, ?_⟩
    rcases h.2 with hl | ⟨g', cap, cur, hv, hB', rest⟩
    · exact .inl hl
    · exact .inr ⟨g', cap, cur, hv, by omega, rest⟩
  exact ⟨vf, vw, h1, h2, h3, hg, go hf, go hu, by omega, e⟩
theorem ri_new (h : All w0 w Ps) (n : Nat) (i : Int) (hi : (n : Int) = i) (h1 : 1 ≤ n) (h2 : n ≤ 4096) : Calls Try.prog 8 #[.int .i64 i] w fun e w' => ∃ g, e = .returned (.pointer (some ⟨g, 0, none⟩)) ∧ All w0 w' (Rf w0.heap.size g (fresh n) :: Ps) := by
  subst hi
  refine (rnew_walk n h1 h2 w).mono ?_
  rintro e w' ⟨g, fs, rfl, d, b⟩
  exact ⟨g, rfl, h.made b (f := fs) (rf_kp _ _ _) (rf_rebase d h.under.size) (fun x hx => ((rf_kp _ _ _).1 _ _ d x hx).1)⟩
theorem ri_write (h : All w0 w (Rf w0.heap.size g S :: Ps)) (i : Int) (l : List UInt8) (hlen : S.un.length < 1000000000) : Calls Try.prog 21 #[.pointer (some ⟨g, 0, none⟩), .int .i64 i, .string ⟨l.toArray⟩] w fun e w' => e = .returned (.int .i64 (writeE S i l)) ∧ All w0 w' (Rf w0.heap.size g (writeS S i l) :: Ps) := by
  obtain ⟨f, d, k⟩ := h.opened
  exact (rwrite_walk d i l hlen).mono fun e w' ⟨he, ha⟩ => ⟨he, ri_next k ha⟩
theorem ri_flush (h : All w0 w (Rf w0.heap.size g S :: Ps)) : Calls Try.prog 41 #[.pointer (some ⟨g, 0, none⟩)] w fun e w' => e = .returned (.int .i64 (flushE S)) ∧ All w0 w' (Rf w0.heap.size g (flushS S) :: Ps) := by
  obtain ⟨f, d, k⟩ := h.opened
  exact (rflush_walk d).mono fun e w' ⟨he, ha⟩ => ⟨he, ri_next k ha⟩
theorem ri_off (h : All w0 w (Rf w0.heap.size g S :: Ps)) : Calls Try.prog 16 #[.pointer (some ⟨g, 0, none⟩)] w fun e w' => e = .returned (.tuple #[]) ∧ All w0 w' (Rf w0.heap.size g { S with on := false, fuse := 0 } :: Ps) := by
  obtain ⟨f, d, k⟩ := h.opened
  exact (roff_walk d).mono fun e w' ⟨he, ha⟩ => ⟨he, ri_next k ha⟩
theorem ri_arm (h : All w0 w (Rf w0.heap.size g S :: Ps)) (n : Int) (hn : n ≤ 9223372036854775807) : Calls Try.prog 14 #[.pointer (some ⟨g, 0, none⟩), .int .i64 n] w fun e w' => e = .returned (.tuple #[]) ∧ All w0 w' (Rf w0.heap.size g { S with fuse := n.toNat } :: Ps) := by
  obtain ⟨f, d, k⟩ := h.opened
  exact (rarm_walk d n hn).mono fun e w' ⟨he, ha⟩ => ⟨he, ri_next k ha⟩
theorem ri_read (h : All w0 w (Rf w0.heap.size g S :: Ps)) (i : Int) : Calls Try.prog 27 #[.pointer (some ⟨g, 0, none⟩), .int .i64 i] w fun e w' => e = .returned (.tuple #[.string ⟨(readT S i).toArray⟩, .int .i64 (refuse S i)]) ∧ w = w' := by
  obtain ⟨f, d, _⟩ := h.opened
  exact rread_walk d i
/-- Fates that lay there ahead of all. -/
theorem ri_wake_old (h : All w0 w (Rf w0.heap.size g S :: Ps)) (v : Value) (cs : List UInt8) (hcs : cs.length ≤ 9223372036854775807) (hs : Src w0 v cs) : Calls Try.prog 18 #[.pointer (some ⟨g, 0, none⟩), v] w fun e w' => e = .returned (.tuple #[]) ∧ All w0 w' (Rf w0.heap.size g (wakeS S cs) :: Ps) := by
  obtain ⟨f, d, k⟩ := h.opened
  refine (rwake_walk d v cs hcs (fun w' fr => ?_)).mono fun e w' ⟨he, ha⟩ => ⟨he, ri_next k ha⟩
  refine src_stays (src_under hs h.under) fr ?_
  intro h0 x hx e
  rcases hs with ⟨rfl, _⟩ | ⟨_, b, off, cap, rfl, _, _, h3, _⟩
  · simp at h0
  · have := ((rf_kp _ _ _).1 _ _ d x hx).1
    simp [Value.ownBlock] at e
    omega
/-- The cells of its head. -/
theorem ri_cells (h : All w0 w (Rf w0.heap.size g S :: Ps)) : ∃ (vf : Value) (A : Option Addr) (cap : Nat), vf = .slice A S.fl.length cap ∧ w.cell? ⟨g, 0, none⟩ = some vf ∧ w.cell? ⟨g, 2, none⟩ = some (.bool S.on) ∧ S.fl.length ≤ 4096 := by
  obtain ⟨f, d, _⟩ := h.opened
  obtain ⟨vf, vw, h1, h2, h3, hg, hf, hu, hb, e⟩ := d
  obtain ⟨A, cap, rfl, _, _⟩ := DF.own_slice hf
  exact ⟨_, A, cap, rfl, hg.cell 0, hg.cell 2, h1.2.2.1⟩
end
end RI
end Go.Proofs.Ytjdkmafbogaboaa
