/- What asks, one behind the other: first, when. -/
import Derived.Test.YtkhdidhpcdlmcaaRound
import Derived.RangeFuncBound
import Derived.Shelf.Abstract
namespace Go.Proofs.Ytkhdidhpcdlmcaa
set_option maxRecDepth 100000
open Go.RowKit Go.Lib MM MF RN
namespace TF
/-- A function that is called by its value. -/
def Ent (f : Nat) : Prop := ∀ (args : Array Value) (w : World), (callFunc f args).run Try.prog w = .ok (.enter f args) w
theorem when_walk (w : World) (c : Int) (f : Nat) (bnd caps : Array Value) : Calls Try.prog 47 #[.int .i64 c, .func (.func f) bnd caps] w fun e w' => ∃ be bf : Nat, e = .returned (.func (.func 107) #[] #[.pointer (some ⟨bf, 0, none⟩), .pointer (some ⟨be, 0, none⟩)]) ∧
    w'.cell? ⟨be, 0, none⟩ = some (.int .i64 c) ∧ w'.cell? ⟨bf, 0, none⟩ = some (.func (.func f) bnd caps) ∧ Below w.heap.size w w' ∧ w.heap.size ≤ be ∧ w.heap.size ≤ bf := by
  go_enter Try.func47, Try.ntmps47
  go_wp2
  go_ret
  have h1 := has_fresh w [.int .i64 c] 36
  have h2 := has_fresh (w.alloc (.cells #[.int .i64 c] 36)) [.func (.func f) bnd caps] 45
  rw [World.size_alloc] at h2
  have hb : Below w.heap.size w (w.alloc (.cells #[.int .i64 c] 36)) := (Below.refl _ w).alloc (Nat.le_refl _) _
  exact ⟨w.heap.size, w.heap.size + 1, rfl, (h1.grow _).cell 0, h2.cell 0, hb.alloc (by simp) _, Nat.le_refl _, Nat.le_succ _⟩
theorem when1_walk (w : World) (be bf f : Nat) (c : Int) (bnd caps : Array Value) (b : Bool) (hf : Ent f) (hc : w.cell? ⟨be, 0, none⟩ = some (.int .i64 c)) (hv : w.cell? ⟨bf, 0, none⟩ = some (.func (.func f) bnd caps))
    (hk : Calls Try.prog f (bnd ++ caps) w fun e w' => e = .returned (.bool b) ∧ Below w.heap.size w w') :
    Calls Try.prog 107 #[.pointer (some ⟨bf, 0, none⟩), .pointer (some ⟨be, 0, none⟩)] w fun e w' => e = .returned (.int .i64 (if b then c else 0)) ∧ Below w.heap.size w w' := by
  unfold Ent at hf
  go_enter Try.func107, Try.ntmps107
  have HK := Lib.hid hk
  clear hk
  cases b with
  | true =>
    go_wp2
    refine HK.out.mono ?_
    rintro e w3 ⟨rfl, b3⟩
    have hc3 := (b3.cell (p := ⟨be, 0, none⟩) (cell_lt hc)).trans hc
    go_wp2
    go_ret
    exact ⟨rfl, b3⟩
  | false =>
    go_wp2
    refine HK.out.mono ?_
    rintro e w3 ⟨rfl, b3⟩
    go_wp2
    go_ret
    exact ⟨rfl, b3⟩
/-- What one of those that are asked does. -/
def Asks (v : Value) (W : World) (R : Int → World → Prop) : Prop := ∃ (f : Nat) (bnd caps : Array Value), v = .func (.func f) bnd caps ∧ Ent f ∧ Calls Try.prog f (bnd ++ caps) W fun e W' => ∃ c : Int, e = .returned (.int .i64 c) ∧ R c W'
/-- **They are asked one behind the other, till the first error.** -/
theorem first_walk (w : World) (g n cap : Nat) (hn : n ≤ cap) (hcap : cap ≤ maxLen) (I : Nat → World → Prop) (E : Int → World → Prop) (fs : List Value) (hl : fs.length = n) (hI : ∀ i W, I i W → ∀ k, k < n → W.cell? ⟨g, k, none⟩ = fs[k]?)
    (h0 : I 0 w) (hA : ∀ i W v, I i W → fs[i]? = some v → Asks v W (fun c W' => (c = 0 ∧ I (i + 1) W') ∨ (c ≠ 0 ∧ E c W'))) :
    Calls Try.prog 38 #[.slice (some ⟨g, 0, none⟩) n cap] w fun e w' => ∃ c : Int, e = .returned (.int .i64 c) ∧ ((c = 0 ∧ I n w') ∨ (c ≠ 0 ∧ E c w')) := by
  have hn64 : n ≤ 9223372036854775807 := by unfold maxLen at hcap; omega
  go_enter Try.func38, Try.ntmps38
  go_wp2
  go_loopw [8] (fun p wr => ∃ i : Nat, p = .int .i64 i ∧ i ≤ n ∧ I i wr) (fun p wr => match p with | .int _ i => (n - i.toNat) | _ => 0)
  case atStart => exact ⟨0, rfl, Nat.zero_le _, h0⟩
  case round =>
    obtain ⟨i, rfl, hi, hi2⟩ := hrel
    rcases Nat.lt_or_ge i n with hlt | hge
    · have hv := hI i wr hi2 i hlt
      obtain ⟨v, hfv⟩ : ∃ v, fs[i]? = some v := ⟨_, List.getElem?_eq_getElem (by omega)⟩
      rw [hfv] at hv
      obtain ⟨f, bnd, caps, rfl, hf, hk⟩ := hA i wr v hi2 hfv
      have HK := Lib.hid hk
      unfold Ent at hf
      clear hA hI h0 hk
      go_wp2
      refine HK.out.mono ?_
      rintro e w3 ⟨c, rfl, hc⟩
      by_cases h0 : c = 0
      · subst h0
        have h3 : I (i + 1) w3 := by
          rcases hc with ⟨_, h⟩ | ⟨h, _⟩
          · exact h
          · exact absurd rfl h
        have e1 : IntKind.i64.wrap ((i : Int) + 1) = ((i + 1 : Nat) : Int) := by unfold IntKind.wrap; simp [IntKind.bits, IntKind.signed]; omega
        go_wp2
        go_roundw
        case rel => exact ⟨i + 1, by simp, hlt, h3⟩
        case measure => simp; omega
      · have h3 : E c w3 := by
          rcases hc with ⟨h, _⟩ | ⟨_, h⟩
          · exact absurd h h0
          · exact h
        go_wp2
        go_ret
        exact ⟨c, rfl, .inr ⟨h0, h3⟩⟩
    · obtain rfl : i = n := by omega
      clear hA hI h0
      go_wp2
      go_ret
      exact ⟨0, rfl, .inl ⟨rfl, hi2⟩⟩
/-- The first that is an error. -/
def firstOf : List Int → Int
  | [] => 0
  | c :: r => if c = 0 then firstOf r else c
theorem firstOf_drop : ∀ (cs : List Int) (i : Nat) (c : Int), cs[i]? = some c → firstOf (cs.drop i) = if c = 0 then firstOf (cs.drop (i + 1)) else c
  | [], _, _, h => by simp at h
  | d :: r, 0, c, h => by simp at h; subst h; rfl
  | d :: r, i + 1, c, h => by simpa using firstOf_drop r i c (by simpa using h)
/-- Those that leave all as it is. -/
theorem first_pure (w : World) (g n cap : Nat) (hn : n ≤ cap) (hcap : cap ≤ maxLen) (fs : List Value) (cs : List Int) (hl : fs.length = n) (hl2 : cs.length = n) (t : TypeId) (hb : Has w g t fs)
    (hA : ∀ (i : Nat) (W : World) (v : Value) (c : Int), Below w.heap.size w W → fs[i]? = some v → cs[i]? = some c → Asks v W (fun c' W' => c' = c ∧ Below W.heap.size W W')) :
    Calls Try.prog 38 #[.slice (some ⟨g, 0, none⟩) n cap] w fun e w' => e = .returned (.int .i64 (firstOf cs)) ∧ Below w.heap.size w w' := by
  refine (first_walk w g n cap hn hcap (fun i W => Below w.heap.size w W ∧ firstOf (cs.drop i) = firstOf cs) (fun c W => Below w.heap.size w W ∧ c = firstOf cs) fs hl ?_ ⟨Below.refl _ _, by simp⟩ ?_).mono ?_
  · rintro i W ⟨b, _⟩ k hk
    have := (hb.under b hb.lt).cell k
    simpa using this
  · rintro i W v ⟨b, hd⟩ hv
    have hi : i < cs.length := by
      have := (List.getElem?_eq_some_iff.1 hv).1
      omega
    obtain ⟨c, hc⟩ : ∃ c, cs[i]? = some c := ⟨_, List.getElem?_eq_getElem hi⟩
    obtain ⟨f, bnd, caps, rfl, hf, hk⟩ := hA i W v c b hv hc
    refine ⟨f, bnd, caps, rfl, hf, hk.mono ?_⟩
    rintro e W' ⟨c', rfl, rfl, b'⟩
    have hx := firstOf_drop cs i c' hc
    have b2 := b.trans (b'.mono b.size)
    refine ⟨c', rfl, ?_⟩
    by_cases h0 : c' = 0
    · rw [if_pos h0] at hx
      exact .inl ⟨h0, b2, hx.symm.trans hd⟩
    · rw [if_neg h0] at hx
      exact .inr ⟨h0, b2, hx.symm.trans hd⟩
  · rintro e w' ⟨c, rfl, ⟨rfl, b, h⟩ | ⟨h0, b, rfl⟩⟩
    · rw [← h, ← hl2, List.drop_length]
      exact ⟨rfl, b⟩
    · exact ⟨rfl, b⟩
theorem ent_when : Ent 107 := enters_of Try.func107 (by kernel_rfl) rfl
theorem asks_when {W : World} {be bf f : Nat} {c : Int} {bnd caps : Array Value} {b : Bool} (hf : Ent f) (hc : W.cell? ⟨be, 0, none⟩ = some (.int .i64 c)) (hv : W.cell? ⟨bf, 0, none⟩ = some (.func (.func f) bnd caps))
    (hk : Calls Try.prog f (bnd ++ caps) W fun e w' => e = .returned (.bool b) ∧ Below W.heap.size W w') :
    Asks (.func (.func 107) #[] #[.pointer (some ⟨bf, 0, none⟩), .pointer (some ⟨be, 0, none⟩)]) W (fun c' W' => c' = (if b then c else 0) ∧ Below W.heap.size W W') :=
  ⟨_, _, _, rfl, ent_when, (when1_walk W be bf f c bnd caps b hf hc hv hk).mono fun _ _ ⟨he, hb⟩ => ⟨_, he, rfl, hb⟩⟩
end TF
end Go.Proofs.Ytkhdidhpcdlmcaa
