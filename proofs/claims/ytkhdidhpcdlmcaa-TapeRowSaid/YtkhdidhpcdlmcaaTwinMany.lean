/- The calls on twins and their disks, among other things that lie apart. -/
import Derived.Test.YtkhdidhpcdlmcaaTwinPut
import Derived.Test.YtkhdidhpcdlmcaaDiskHave
namespace Go.Proofs.Ytkhdidhpcdlmcaa
open Go.RowKit Go.Lib MM MF DM DK TM FL TH DN DW DF DU MS DC MY DP TD TN TS TO TT TU
namespace TP
/-- Two things that share no block, as one. -/
def Pr (Q R : World → List Nat → Prop) (w : World) (fs : List Nat) : Prop := ∃ f1 f2, Q w f1 ∧ R w f2 ∧ (∀ x ∈ f1, x ∉ f2) ∧ fs = f1 ++ f2
section
variable {B : Nat} {w0 w w' : World} {Q R : World → List Nat → Prop} {Ps : List (World → List Nat → Prop)}
theorem pr_kp (hQ : Kp B Q) (hR : Kp B R) : Kp B (Pr Q R) := by
  refine ⟨?_, ?_⟩
  · rintro w fs ⟨f1, f2, q, r, _, rfl⟩ x hx
    rcases List.mem_append.1 hx with hx | hx
    · exact hQ.1 _ _ q x hx
    · exact hR.1 _ _ r x hx
  · rintro w w' fs gs ⟨f1, f2, q, r, ha, rfl⟩ k hn
    exact ⟨f1, f2, hQ.2 _ _ _ _ q k (fun x hx => hn x (by simp [hx])), hR.2 _ _ _ _ r k (fun x hx => hn x (by simp [hx])), ha, rfl⟩
theorem All.join (h : All w0 w (Q :: R :: Ps)) : All w0 w (Pr Q R :: Ps) := by
  obtain ⟨hb, fs, f1, f2, hp, hk, ⟨g1, g2, hq, hkq, hs, hag, rfl⟩, ha, rfl⟩ := h
  exact ⟨hb, (f1 ++ g1) ++ g2, f1 ++ g1, g2, ⟨f1, g1, hp, hq, fun x hx hx2 => ha x hx (by simp [hx2]), rfl⟩, pr_kp hk hkq, hs, fun x hx hx2 => by
    rcases List.mem_append.1 hx with hx | hx
    · exact ha x hx (by simp [hx2])
    · exact hag x hx hx2, rfl⟩
theorem All.part (h : All w0 w (Pr Q R :: Ps)) (hQ : Kp w0.heap.size Q) (hR : Kp w0.heap.size R) : All w0 w (Q :: R :: Ps) := by
  obtain ⟨hb, fs, f0, g2, ⟨f1, g1, hp, hq, hd, rfl⟩, hk, hs, ha, rfl⟩ := h
  refine ⟨hb, f1 ++ (g1 ++ g2), f1, g1 ++ g2, hp, hQ, ⟨g1, g2, hq, hR, hs, fun x hx hx2 => ha x (by simp [hx]) hx2, rfl⟩, fun x hx hx2 => ?_, rfl⟩
  rcases List.mem_append.1 hx2 with h2 | h2
  · exact hd x hx h2
  · exact ha x (by simp [hx]) h2
end
/-- The twin at gt, on the disk at g, as a thing. -/
def Ti (B gt g : Nat) (a : Int) (h : List UInt8) (lost : Bool) (w : World) (fs : List Nat) : Prop := Row w gt 121 (tcells g a h lost) ∧ h.length = 64 ∧ B ≤ gt ∧ fs = [gt]
theorem ti_kp (B gt g : Nat) (a : Int) (h : List UInt8) (lost : Bool) : Kp B (Ti B gt g a h lost) := by
  refine ⟨?_, ?_⟩
  · rintro w fs ⟨r, _, hB, rfl⟩ x hx
    rw [List.mem_singleton] at hx
    subst hx
    exact ⟨hB, r.lt⟩
  · rintro w w' fs gs ⟨r, hh, hB, rfl⟩ k hn
    exact ⟨r.kept k (hn gt (by simp)), hh, hB, rfl⟩
section
variable {w0 w w' : World} {gt g : Nat} {S S' : St} {a : Int} {h : List UInt8} {lost : Bool} {Ps : List (World → List Nat → Prop)}
theorem ti_format (hA : All w0 w (Di w0.heap.size g S :: Ps)) (a : Int) (hlen : S.un.length < 999999990) : Calls Try.prog 69 #[.pointer (some ⟨g, 0, none⟩), .int .i64 a] w fun e w' => e = .returned (.int .i64 (fmtE S a)) ∧ All w0 w' (Di w0.heap.size g (fmtS S a) :: Ps) := by
  obtain ⟨f, d, k⟩ := hA.opened
  exact (format_walk w _ g S f d a hlen).mono fun e w' ⟨he, ha⟩ => ⟨he, di_next k ha⟩
/-- What an Open leaves. -/
def OpenEnd (w0 : World) (g : Nat) (S : St) (a : Int) (Ps : List (World → List Nat → Prop)) (v : Value) (w' : World) : Prop :=
  (openE S a ≠ 0 ∧ v = .pointer none ∧ All w0 w' (Di w0.heap.size g (openS S a) :: Ps)) ∨
  (openE S a = 0 ∧ ∃ gt, v = .pointer (some ⟨gt, 0, none⟩) ∧ All w0 w' (Ti w0.heap.size gt g a (best (openS S a) a) false :: Di w0.heap.size g (openS S a) :: Ps))
theorem openS_ok {S : St} {a : Int} {w : World} {B g : Nat} {fs : List Nat} (d : Dk w B g (openS S a) fs) : (best (openS S a) a).length = 64 := bestTo_length d.ok a 2
theorem ti_open (hA : All w0 w (Di w0.heap.size g S :: Ps)) (a : Int) (hlen : S.un.length < 999999990) : Calls Try.prog 42 #[.pointer (some ⟨g, 0, none⟩), .int .i64 a] w fun e w' => ∃ v, e = .returned (.tuple #[v, .int .i64 (openE S a)]) ∧ OpenEnd w0 g S a Ps v w' := by
  obtain ⟨f, d, k⟩ := hA.opened
  have hs := hA.under.size
  refine (open_walk w _ g S f d a hlen).mono ?_
  rintro e w' ⟨v, rfl, fs', d', fr, hm, hv⟩
  refine ⟨v, rfl, ?_⟩
  rcases hv with ⟨h1, rfl⟩ | ⟨h1, gt, rfl, r, hn, hB⟩
  · exact .inl ⟨h1, rfl, k w' (Di w0.heap.size g (openS S a)) fs' (di_kp _ _ _) d' fr hm⟩
  · have hk := pr_kp (ti_kp w0.heap.size gt g a (best (openS S a) a) false) (di_kp w0.heap.size g (openS S a))
    have hp := k w' _ ([gt] ++ fs') hk ⟨[gt], fs', ⟨r, openS_ok d', Nat.le_trans hs hB, rfl⟩, d', fun x hx hx2 => hn (by rw [List.mem_singleton] at hx; exact hx ▸ hx2), rfl⟩ fr (fun x hx => by
      rcases List.mem_append.1 hx with hx | hx
      · rw [List.mem_singleton] at hx; subst hx; exact .inr hB
      · exact hm x hx)
    exact .inr ⟨h1, gt, rfl, All.part hp (ti_kp _ _ _ _ _ _) (di_kp _ _ _)⟩
theorem ti_set (hA : All w0 w (Ti w0.heap.size gt g a h lost :: Di w0.heap.size g S :: Ps)) (h0 : 0 ≤ a) (h1 : a ≤ 4096) (t : List UInt8) (ht : t.length ≤ 9223372036854775807) (hlen : S.un.length < 999999990) :
    Calls Try.prog 60 #[.pointer (some ⟨gt, 0, none⟩), .string ⟨t.toArray⟩] w fun e w' => e = .returned (.int .i64 (setE S a h lost t)) ∧ All w0 w' (Ti w0.heap.size gt g a (setH S a h lost t) (setL S a h lost t) :: Di w0.heap.size g (setS S a h lost t) :: Ps) := by
  obtain ⟨f, ⟨f1, f2, ⟨r, hh, hB, rfl⟩, d, hn, rfl⟩, k⟩ := (All.join hA).opened
  have hgt : gt ∉ f2 := hn gt (by simp)
  refine (set_walk w _ g S f2 d gt a h0 h1 h lost hh r hgt t ht hlen).mono ?_
  rintro e w' ⟨rfl, fs', d', r', fr, hm⟩
  refine ⟨rfl, ?_⟩
  have hl : (setH S a h lost t).length = 64 := by
    unfold setH
    split
    · rename_i hs
      unfold nextH
      refine half_length _ _ ?_
      by_cases h55 : 55 < t.length
      · exact absurd hs (by rw [(set_not (a := a) (show may S h lost t = 3 by unfold may; rw [if_pos h55]) (by decide)).1]; decide)
      · omega
    · exact hh
  have hk := pr_kp (ti_kp w0.heap.size gt g a (setH S a h lost t) (setL S a h lost t)) (di_kp w0.heap.size g (setS S a h lost t))
  have hp := k w' _ ([gt] ++ fs') hk ⟨[gt], fs', ⟨r', hl, hB, rfl⟩, d', fun x hx hx2 => by
    rw [List.mem_singleton] at hx
    subst hx
    rcases hm _ hx2 with q | q
    · exact hgt q
    · have := r.lt; omega, rfl⟩ fr (fun x hx => by
      rcases List.mem_append.1 hx with hx | hx
      · exact .inl (by simp at hx; simp [hx])
      · exact (hm x hx).imp (fun q => by simp [q]) id)
  exact All.part hp (ti_kp _ _ _ _ _ _) (di_kp _ _ _)
theorem ti_text (hA : All w0 w (Ti w0.heap.size gt g a h lost :: Ps)) : Calls Try.prog 101 #[.pointer (some ⟨gt, 0, none⟩)] w fun e w' => e = .returned (.string ⟨(txt h).toArray⟩) ∧ Below w.heap.size w w' := by
  obtain ⟨f, ⟨r, hh, hB, rfl⟩, k⟩ := hA.opened
  exact text_of w gt g a h lost hh r
theorem ti_len (hA : All w0 w (Ti w0.heap.size gt g a h lost :: Ps)) : h.length = 64 := by obtain ⟨f, ⟨r, hh, hB, rfl⟩, k⟩ := hA.opened; exact hh
end
end TP
end Go.Proofs.Ytkhdidhpcdlmcaa
