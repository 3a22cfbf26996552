/- Several things in memory that share no block: what a call on one of them leaves of the others. -/
import Derived.Test.YtkhdidhpcdlmcaaFoot
namespace Go.Proofs.Ytkhdidhpcdlmcaa
open Go.RowKit Go.Lib MM MF
namespace MY
/-- What is said of a thing: it lies in its blocks, all from B on; what turns none of them leaves it. -/
def Kp (B : Nat) (P : World → List Nat → Prop) : Prop := (∀ w fs, P w fs → ∀ x ∈ fs, B ≤ x ∧ x < w.heap.size) ∧ (∀ w w' fs gs, P w fs → Fr w w' gs → (∀ x ∈ fs, x ∉ gs) → P w' fs)
/-- Things that share no block. -/
def Sep (B : Nat) (w : World) : List (World → List Nat → Prop) → List Nat → Prop
  | [], fs => fs = []
  | P :: Ps, fs => ∃ f1 f2, P w f1 ∧ Kp B P ∧ Sep B w Ps f2 ∧ (∀ x ∈ f1, x ∉ f2) ∧ fs = f1 ++ f2
/-- All these things lie there, made since w0; what lay there then is as it was. -/
def All (w0 w : World) (Ps : List (World → List Nat → Prop)) : Prop := Below w0.heap.size w0 w ∧ ∃ fs, Sep w0.heap.size w Ps fs
section
variable {B : Nat} {w0 w w' : World} {P P' Q : World → List Nat → Prop} {Ps Qs : List (World → List Nat → Prop)} {fs gs : List Nat}
theorem Sep.mem : ∀ {Ps : List (World → List Nat → Prop)} {fs : List Nat}, Sep B w Ps fs → ∀ x ∈ fs, B ≤ x ∧ x < w.heap.size
  | [], _, h => by rw [show _ = [] from h]; simp
  | P :: Ps, _, h => by
    obtain ⟨f1, f2, hp, hk, hs, _, rfl⟩ := h
    intro x hx
    rcases List.mem_append.1 hx with hx | hx
    · exact hk.1 _ _ hp x hx
    · exact Sep.mem hs x hx
theorem Sep.kept : ∀ {Ps : List (World → List Nat → Prop)} {fs : List Nat}, Sep B w Ps fs → Fr w w' gs → (∀ x ∈ fs, x ∉ gs) → Sep B w' Ps fs
  | [], _, h, _, _ => h
  | P :: Ps, _, h, k, hn => by
    obtain ⟨f1, f2, hp, hk, hs, ha, rfl⟩ := h
    exact ⟨f1, f2, hk.2 _ _ _ _ hp k (fun x hx => hn x (by simp [hx])), hk, Sep.kept hs k (fun x hx => hn x (by simp [hx])), ha, rfl⟩
theorem Sep.next {f1 f2 f1' : List Nat} (hk' : Kp B P') (hs : Sep B w Ps f2) (ha : ∀ x ∈ f1, x ∉ f2) (hp : P' w' f1') (k : Fr w w' f1) (hm : ∀ x ∈ f1', x ∈ f1 ∨ w.heap.size ≤ x) : Sep B w' (P' :: Ps) (f1' ++ f2) := by
  refine ⟨f1', f2, hp, hk', hs.kept k (fun x hx hx1 => ha x hx1 hx), fun x hx hx2 => ?_, rfl⟩
  rcases hm x hx with h | h
  · exact ha x h hx2
  · have := (hs.mem x hx2).2; omega
theorem All.under (h : All w0 w Ps) : Below w0.heap.size w0 w := h.1
/-- A call on the first thing. -/
theorem All.opened (h : All w0 w (P :: Ps)) : ∃ f1, P w f1 ∧ ∀ w' P' f1', Kp w0.heap.size P' → P' w' f1' → Fr w w' f1 → (∀ x ∈ f1', x ∈ f1 ∨ w.heap.size ≤ x) → All w0 w' (P' :: Ps) := by
  obtain ⟨hb, fs, f1, f2, hp, hk, hs, ha, rfl⟩ := h
  exact ⟨f1, hp, fun w' P' f1' hk' hp' k hm => ⟨hb.trans (k.below (fun x hx => (hk.1 _ _ hp x hx).1) hb.size), _, Sep.next hk' hs ha hp' k hm⟩⟩
theorem All.below (h : All w0 w Ps) (b : Below w.heap.size w w') : All w0 w' Ps := by
  obtain ⟨hb, fs, hs⟩ := h
  exact ⟨hb.trans (b.mono hb.size), fs, hs.kept (Fr.of_below b []) (by simp)⟩
theorem All.alloc (h : All w0 w Ps) (o : Obj) : All w0 (w.alloc o) Ps := h.below ((Below.refl _ _).alloc (Nat.le_refl _) o)
theorem All.drew (h : All w0 w Ps) : All w0 w.drew Ps := h.below ⟨rfl, rfl, rfl, Nat.le_refl _, fun _ _ => rfl⟩
/-- A thing that was made just now. -/
theorem All.made (h : All w0 w Ps) (b : Below w.heap.size w w') {f : List Nat} (hk : Kp w0.heap.size P) (hp : P w' f) (hf : ∀ x ∈ f, w.heap.size ≤ x) : All w0 w' (P :: Ps) := by
  obtain ⟨hb, fs, hs⟩ := h
  refine ⟨hb.trans (b.mono hb.size), f ++ fs, f, fs, hp, hk, hs.kept (Fr.of_below b []) (by simp), fun x hx hx2 => ?_, rfl⟩
  have := hf x hx
  have := (hs.mem x hx2).2
  omega
theorem All.swap (h : All w0 w (P :: Q :: Ps)) : All w0 w (Q :: P :: Ps) := by
  obtain ⟨hb, fs, f1, f2, hp, hk, ⟨g1, g2, hq, hkq, hs, hag, rfl⟩, ha, rfl⟩ := h
  refine ⟨hb, g1 ++ (f1 ++ g2), g1, f1 ++ g2, hq, hkq, ⟨f1, g2, hp, hk, hs, fun x hx hx2 => ha x hx (by simp [hx2]), rfl⟩, fun x hx hx2 => ?_, rfl⟩
  rcases List.mem_append.1 hx2 with h2 | h2
  · exact ha x h2 (by simp [hx])
  · exact hag x hx h2
theorem All.tail (h : All w0 w (P :: Ps)) : All w0 w Ps := by
  obtain ⟨hb, fs, f1, f2, hp, hk, hs, ha, rfl⟩ := h
  exact ⟨hb, f2, hs⟩
theorem All.start (w0 : World) : All w0 w0 [] := ⟨Below.refl _ _, [], rfl⟩
theorem Sep.perm (hP : Ps.Perm Qs) : ∀ {fs : List Nat}, Sep B w Ps fs → ∃ gs, Sep B w Qs gs ∧ ∀ x, x ∈ fs ↔ x ∈ gs := by
  induction hP with
  | nil => intro fs h; exact ⟨fs, h, fun _ => Iff.rfl⟩
  | cons x _ ih =>
    intro fs h
    obtain ⟨f1, f2, hp, hk, hs, ha, rfl⟩ := h
    obtain ⟨g2, hs2, he⟩ := ih hs
    exact ⟨f1 ++ g2, ⟨f1, g2, hp, hk, hs2, fun x hx hx2 => ha x hx ((he x).2 hx2), rfl⟩, fun x => by simp [he x]⟩
  | swap x y l =>
    intro fs h
    obtain ⟨f1, f2, hp, hk, ⟨g1, g2, hq, hkq, hs, hag, rfl⟩, ha, rfl⟩ := h
    refine ⟨g1 ++ (f1 ++ g2), ⟨g1, f1 ++ g2, hq, hkq, ⟨f1, g2, hp, hk, hs, fun x hx hx2 => ha x hx (by simp [hx2]), rfl⟩, fun x hx hx2 => ?_, rfl⟩, fun x => by simp; constructor <;> (rintro (h | h | h) <;> simp [h])⟩
    rcases List.mem_append.1 hx2 with h2 | h2
    · exact ha x h2 (by simp [hx])
    · exact hag x hx h2
  | trans _ _ ih1 ih2 =>
    intro fs h
    obtain ⟨g1, h1, e1⟩ := ih1 h
    obtain ⟨g2, h2, e2⟩ := ih2 h1
    exact ⟨g2, h2, fun x => (e1 x).trans (e2 x)⟩
theorem All.perm (h : All w0 w Ps) (hP : Ps.Perm Qs) : All w0 w Qs := by
  obtain ⟨hb, fs, hs⟩ := h
  obtain ⟨gs, hg, _⟩ := Sep.perm hP hs
  exact ⟨hb, gs, hg⟩
end
end MY
end Go.Proofs.Ytkhdidhpcdlmcaa
