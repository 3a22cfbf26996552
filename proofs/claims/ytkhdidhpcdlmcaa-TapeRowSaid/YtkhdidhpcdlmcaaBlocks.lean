/- Blocks of the statement's own among other things: a row that is known whole. -/
import Derived.Test.YtkhdidhpcdlmcaaMany
import Derived.Test.YtkhdidhpcdlmcaaFootLaws
namespace Go.Proofs.Ytkhdidhpcdlmcaa
open Go.RowKit Go.Lib MM MF MY
namespace BL
/-- Block g holds just these cells. -/
def Bl (B g : Nat) (t : TypeId) (cs : List Value) (w : World) (fs : List Nat) : Prop := Has w g t cs ∧ B ≤ g ∧ fs = [g]
theorem bl_kp (B g : Nat) (t : TypeId) (cs : List Value) : Kp B (Bl B g t cs) := by
  constructor
  · rintro w fs ⟨h, hb, rfl⟩ x hx
    simp at hx
    subst hx
    exact ⟨hb, h.lt⟩
  · rintro w w' fs gs ⟨h, hb, rfl⟩ k hn
    exact ⟨k.has h (hn _ (by simp)), hb, rfl⟩
section
variable {w0 w w' : World} {g : Nat} {t : TypeId} {cs cs' : List Value} {P Q R T : World → List Nat → Prop} {Ps : List (World → List Nat → Prop)}
theorem sep_get {B : Nat} : ∀ {Ps : List (World → List Nat → Prop)} {fs : List Nat}, Sep B w Ps fs → P ∈ Ps → ∃ f, P w f
  | [], _, _, hm => by cases hm
  | A :: Ps, _, h, hm => by
    obtain ⟨f1, f2, hp, hk, hs, ha, rfl⟩ := h
    rcases List.mem_cons.1 hm with rfl | hm
    · exact ⟨f1, hp⟩
    · exact sep_get hs hm
theorem all_get (h : All w0 w Ps) (hm : P ∈ Ps) : ∃ f, P w f := by obtain ⟨_, fs, hs⟩ := h; exact sep_get hs hm
theorem all_has (h : All w0 w Ps) (hm : Bl w0.heap.size g t cs ∈ Ps) : Has w g t cs := by obtain ⟨f, hh, _⟩ := all_get h hm; exact hh
theorem all_third (h : All w0 w (P :: Q :: R :: Ps)) : All w0 w (R :: P :: Q :: Ps) := h.perm ((List.Perm.cons _ (List.Perm.swap _ _ _)).trans (List.Perm.swap _ _ _))
theorem all_third_back (h : All w0 w (R :: P :: Q :: Ps)) : All w0 w (P :: Q :: R :: Ps) := h.perm ((List.Perm.swap _ _ _).trans (List.Perm.cons _ (List.Perm.swap _ _ _)))
theorem all_fourth (h : All w0 w (P :: Q :: R :: T :: Ps)) : All w0 w (T :: P :: Q :: R :: Ps) := h.perm ((List.Perm.cons _ ((List.Perm.cons _ (List.Perm.swap _ _ _)).trans (List.Perm.swap _ _ _))).trans (List.Perm.swap _ _ _))
theorem all_fourth_back (h : All w0 w (T :: P :: Q :: R :: Ps)) : All w0 w (P :: Q :: R :: T :: Ps) := h.perm ((List.Perm.swap _ _ _).trans (List.Perm.cons _ ((List.Perm.swap _ _ _).trans (List.Perm.cons _ (List.Perm.swap _ _ _)))))
/-- One cell is stored. -/
theorem bl_put (h : All w0 w (Bl w0.heap.size g t cs :: Ps)) (i : Nat) (u : Value) : All w0 (w.setCell ⟨g, i, none⟩ u) (Bl w0.heap.size g t (cs.set i u) :: Ps) := by
  obtain ⟨f, ⟨hh, hb, rfl⟩, k⟩ := h.opened
  exact k _ _ [g] (bl_kp _ _ _ _) ⟨hh.put i u, hb, rfl⟩ ((Fr.refl w [g]).setCell (by simp) u) (fun x hx => .inl hx)
/-- It is stored whole. -/
theorem bl_all (h : All w0 w (Bl w0.heap.size g t cs :: Ps)) (hh' : Has w' g t cs') (fr : Fr w w' [g]) : All w0 w' (Bl w0.heap.size g t cs' :: Ps) := by
  obtain ⟨f, ⟨hh, hb, rfl⟩, k⟩ := h.opened
  exact k _ _ [g] (bl_kp _ _ _ _) ⟨hh', hb, rfl⟩ fr (fun x hx => .inl hx)
/-- A block that is made now. -/
theorem bl_new (h : All w0 w Ps) (t : TypeId) (cs : List Value) : All w0 (w.alloc (.cells cs.toArray t)) (Bl w0.heap.size w.heap.size t cs :: Ps) :=
  h.made ((Below.refl _ _).alloc (Nat.le_refl _) _) (f := [w.heap.size]) (bl_kp _ _ _ _) ⟨heap_alloc_new _ _, h.under.size, rfl⟩ (by simp)
end
/-- A store of a whole array into its block. -/
theorem wpList_store_has {P : Program} {ops : Array Oper} {rest : List Oper} {o : Oper} {a : Act} {w : World} {Q : Exit → Act → World → Prop} (hgd : o.guard = none) (ty : TypeId) (x y : Operand) (ho : o.op = .store ty x y) (g : Nat) (cs : List Value) (hx : a.eval x = .pointer (some ⟨g, 0, none⟩)) (hy : a.eval y = .agg cs.toArray)
    (t : TypeId) (xs : List Value) (hr : Has w g t xs) (hl : cs.length = xs.length) (hi : (P.info? ty).map (·.size) = some cs.length) (h1 : ∀ v ∈ cs, v.oneCell' = true)
    (h : ∀ w', Has w' g t cs → Fr w w' [g] → wpList P ops Q rest (a.put o.dst undef) w') : wpList P ops Q (o :: rest) a w := by
  refine wpList_plain hgd fun _ hK => wp_store_mid ty x y ho g 0 cs.toArray hx hy ((Row.of_has hr).there _ _ (by simp; omega)) (by simpa using hi) (all_oneCell_toArray h1) (hK _ _ (h _ ?_ ((Fr.refl w [g]).setCells (by simp) 0 cs)))
  have := heap_setCells_same g t cs 0 w xs hr (by omega)
  rw [FL.splice_all xs cs hl] at this
  exact this
end BL
end Go.Proofs.Ytkhdidhpcdlmcaa
