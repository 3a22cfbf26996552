/- A tape is opened. -/
import Derived.Test.YtkhdidhpcdlmcaaTapeOpens
import Derived.Test.YtkhdidhpcdlmcaaTapeLens
namespace Go.Proofs.Ytkhdidhpcdlmcaa
set_option maxRecDepth 100000
open Go.RowKit Go.Lib MM MF DM DK MY TM TO TD DP TP RN PL TF TR TQ BL FL TA TZ TI TJ TK TN2
namespace TO2
/-- The text that the twin has. -/
def txO (S : St) (a : Int) : List UInt8 := txt (best (openS S a) a)
/-- What Open answers. -/
def openTE (S : St) (a n : Int) : Int :=
  if refT S.fl.length a n ≠ 0 then refT S.fl.length a n else if openE S a ≠ 0 then openE S a else if headE n.toNat (txO S a) ≠ 0 then headE n.toNat (txO S a) else ringE (openS S a)
def openTS (S : St) (a n : Int) : St := if refT S.fl.length a n ≠ 0 then S else openS S a
/-- The tape that was opened. -/
def topT (S : St) (a n : Int) : TS := ⟨hSt (txO S a), hSb (txO S a), bsOf (openS S a) a n.toNat (hSt (txO S a)) (hSb (txO S a) - hSt (txO S a)), hMo (txO S a), false⟩
/-- What is so ahead of each of Open's steps. -/
def OI (w0 : World) (gT g : Nat) (a n : Int) (S : St) (Ps : List (World → List Nat → Prop)) : Nat → World → Prop
  | 0, W => All w0 W (Di w0.heap.size g S :: Bl w0.heap.size gT 80 (cs0 g a (.pointer none)) :: Ps)
  | 1, W => refT S.fl.length a n = 0 ∧ All w0 W (Di w0.heap.size g S :: Bl w0.heap.size gT 80 (cs0 g a (.pointer none)) :: Ps)
  | 2, W => refT S.fl.length a n = 0 ∧ openE S a = 0 ∧ ∃ gt, All w0 W (Ti w0.heap.size gt g a (best (openS S a) a) false :: Di w0.heap.size g (openS S a) :: Bl w0.heap.size gT 80 (cs0 g a (.pointer (some ⟨gt, 0, none⟩))) :: Ps)
  | 3, W => refT S.fl.length a n = 0 ∧ openE S a = 0 ∧ headE n.toNat (txO S a) = 0 ∧ ∃ gt gR, All w0 W (Tr w0.heap.size gT gR (rcs gR g gt a n.toNat (hSt (txO S a)) (hSb (txO S a)) (hSb (txO S a)) (hMo (txO S a)) false) (List.replicate (n.toNat * 128) 0) :: Ti w0.heap.size gt g a (best (openS S a) a) false :: Di w0.heap.size g (openS S a) :: Ps)
  | 4, W => refT S.fl.length a n = 0 ∧ openE S a = 0 ∧ headE n.toNat (txO S a) = 0 ∧ ringE (openS S a) = 0 ∧ ∃ gt gR, All w0 W (Tp w0.heap.size gT gR g gt a n.toNat (topT S a n) :: Ti w0.heap.size gt g a (best (openS S a) a) false :: Di w0.heap.size g (openS S a) :: Ps)
  | _, _ => False
/-- What is so where it ends early. -/
def OE (w0 : World) (g : Nat) (a n : Int) (S : St) (Ps : List (World → List Nat → Prop)) (c : Int) (W : World) : Prop := c = openTE S a n ∧ c ≠ 0 ∧ All w0 W (Di w0.heap.size g (openTS S a n) :: Ps)
/-- The four steps. -/
def fsO (gT bd ba bs bt : Nat) : List Value := [.func (.func 39) #[] #[.pointer (some ⟨bd, 0, none⟩), .pointer (some ⟨ba, 0, none⟩), .pointer (some ⟨bs, 0, none⟩)], .func (.func 41) #[] #[.pointer (some ⟨bd, 0, none⟩), .pointer (some ⟨ba, 0, none⟩), .pointer (some ⟨bt, 0, none⟩)],
  .func (.func 43) #[] #[.pointer (some ⟨bs, 0, none⟩), .pointer (some ⟨bt, 0, none⟩)], .func (.func 45) #[.pointer (some ⟨gT, 0, none⟩)] #[]]
theorem ent1 : Ent 39 := enters_of Try.func39 (by kernel_rfl) rfl
theorem ent2 : Ent 41 := enters_of Try.func41 (by kernel_rfl) rfl
theorem ent3 : Ent 43 := enters_of Try.func43 (by kernel_rfl) rfl
theorem ent4 : Ent 45 := enters_of Try.func45 (by kernel_rfl) rfl
section
variable {w0 w : World} {gT gR g gt bd ba bs bt : Nat} {a n : Int} {S : St} {Ps : List (World → List Nat → Prop)}
theorem refT_zero {L : Nat} (h : refT L a n = 0) : 0 ≤ a ∧ 1 ≤ n ∧ n ≤ (L : Int) ∧ a + 2 + n ≤ (L : Int) := by
  unfold refT at h
  by_cases h1 : a < 0 ∨ n < 1 ∨ (L : Int) < n ∨ (L : Int) - n - 2 < a
  · rw [if_pos h1] at h; exact absurd h (by decide)
  · omega
theorem headE_zero {N : Nat} {t : List UInt8} (h : headE N t = 0) : hSt t ≤ hSb t ∧ hSb t - hSt t ≤ N * 128 ∧ hSb t ≤ 1099511627776 ∧ (hMo t).length ≤ 32 := by
  unfold headE at h
  by_cases ht : t = []
  · obtain ⟨n1, n2, n3⟩ := head_nil
    rw [ht, n1, n2, n3]
    exact ⟨Nat.le_refl _, by omega, by omega, by simp⟩
  · rw [if_neg ht] at h
    by_cases h2 : hEnd t = false ∨ hSb t < hSt t ∨ N * 128 < hSb t - hSt t ∨ 1099511627776 < hSb t ∨ 32 < (hMo t).length
    · rw [if_pos h2] at h; exact absurd h (by decide)
    · refine ⟨?_, ?_, ?_, ?_⟩ <;> (apply Nat.le_of_not_lt; intro h3; exact h2 (by first | exact .inr (.inl h3) | exact .inr (.inr (.inl h3)) | exact .inr (.inr (.inr (.inl h3))) | exact .inr (.inr (.inr (.inr h3)))))
theorem asks_open (hlen : S.un.length < 999999990) (hok : S.fl.length ≤ 4096) (m1 : Bl w0.heap.size bt 26 [.pointer (some ⟨gT, 0, none⟩)] ∈ Ps) (m2 : Bl w0.heap.size bd 25 [.pointer (some ⟨g, 0, none⟩)] ∈ Ps) (m3 : Bl w0.heap.size ba 3 [.int .i64 a] ∈ Ps) (m4 : Bl w0.heap.size bs 3 [.int .i64 n] ∈ Ps)
    (i : Nat) (W : World) (v : Value) (hi : OI w0 gT g a n S Ps i W) (hv : (fsO gT bd ba bs bt)[i]? = some v) : Asks v W (fun c W' => (c = 0 ∧ OI w0 gT g a n S Ps (i + 1) W') ∨ (c ≠ 0 ∧ OE w0 g a n S Ps c W')) := by
  match i, hi, hv with
  | 0, hi, hv =>
    cases hv
    have hA : All w0 W (Di w0.heap.size g S :: Bl w0.heap.size gT 80 (cs0 g a (.pointer none)) :: Ps) := hi
    refine ⟨_, _, _, rfl, ent1, (o1_walk hA (List.mem_cons_of_mem _ m2) (List.mem_cons_of_mem _ m3) (List.mem_cons_of_mem _ m4)).mono ?_⟩
    rintro e W' ⟨rfl, rfl⟩
    refine ⟨_, rfl, ?_⟩
    by_cases hz : refT S.fl.length a n = 0
    · exact .inl ⟨hz, hz, hA⟩
    · exact .inr ⟨hz, by unfold openTE; rw [if_pos hz], hz, by unfold openTS; rw [if_pos hz]; exact hA.swap.tail⟩
  | 1, hi, hv =>
    cases hv
    obtain ⟨h1, hA⟩ : refT S.fl.length a n = 0 ∧ All w0 W (Di w0.heap.size g S :: Bl w0.heap.size gT 80 (cs0 g a (.pointer none)) :: Ps) := hi
    refine ⟨_, _, _, rfl, ent2, (o2_walk hA m1 m2 m3 hlen).mono ?_⟩
    rintro e W' ⟨rfl, hx⟩
    refine ⟨_, rfl, ?_⟩
    rcases hx with ⟨hz, v, hx⟩ | ⟨hz, gt, hx⟩
    · exact .inr ⟨hz, by unfold openTE; rw [if_neg (by rw [h1]; decide), if_pos hz], hz, by unfold openTS; rw [if_neg (by rw [h1]; decide)]; exact hx.swap.tail⟩
    · exact .inl ⟨hz, h1, hz, gt, hx⟩
  | 2, hi, hv =>
    cases hv
    obtain ⟨h1, h2, gt, hA⟩ : refT S.fl.length a n = 0 ∧ openE S a = 0 ∧ ∃ gt, All w0 W (Ti w0.heap.size gt g a (best (openS S a) a) false :: Di w0.heap.size g (openS S a) :: Bl w0.heap.size gT 80 (cs0 g a (.pointer (some ⟨gt, 0, none⟩))) :: Ps) := hi
    obtain ⟨r1, r2, r3, r4⟩ := refT_zero h1
    have hn : n = (n.toNat : Nat) := by omega
    rw [hn] at m4
    refine ⟨_, _, _, rfl, ent3, (o3_walk hA m1 m4 (by omega) (by omega)).mono ?_⟩
    rintro e W' ⟨rfl, gR, hx⟩
    refine ⟨_, rfl, ?_⟩
    by_cases hz : headE n.toNat (txO S a) = 0
    · exact .inl ⟨hz, h1, h2, hz, gt, gR, hx⟩
    · exact .inr ⟨hz, by unfold openTE; rw [if_neg (by rw [h1]; decide), if_neg (by rw [h2]; decide), if_pos hz]; rfl, hz, by unfold openTS; rw [if_neg (by rw [h1]; decide)]; exact hx.tail.tail⟩
  | 3, hi, hv =>
    cases hv
    obtain ⟨h1, h2, h3, gt, gR, hA⟩ : refT S.fl.length a n = 0 ∧ openE S a = 0 ∧ headE n.toNat (txO S a) = 0 ∧ ∃ gt gR, All w0 W (Tr w0.heap.size gT gR (rcs gR g gt a n.toNat (hSt (txO S a)) (hSb (txO S a)) (hSb (txO S a)) (hMo (txO S a)) false) (List.replicate (n.toNat * 128) 0) :: Ti w0.heap.size gt g a (best (openS S a) a) false :: Di w0.heap.size g (openS S a) :: Ps) := hi
    obtain ⟨r1, r2, r3, r4⟩ := refT_zero h1
    obtain ⟨q1, q2, q3, q4⟩ := headE_zero h3
    have hA2 : All w0 W (Tr w0.heap.size gT gR (rcs gR g gt a n.toNat (hSt (txO S a)) (hSb (txO S a)) (hSb (txO S a)) (hMo (txO S a)) false) (List.replicate (n.toNat * 128) 0) :: Di w0.heap.size g (openS S a) :: Ti w0.heap.size gt g a (best (openS S a) a) false :: Ps) := (all_idx [_, _, _] 3 [0, 2, 1] hA rfl (by decide))
    refine ⟨_, _, _, rfl, ent4, (readRing_walk hA2 r1 (by rw [TF2.openS_fl]; omega) (by omega) (by simp) q1 q2 q3).mono ?_⟩
    rintro e W' ⟨rfl, r', hr, hx⟩
    refine ⟨_, rfl, ?_⟩
    have hx2 : All w0 W' (Tr w0.heap.size gT gR (rcs gR g gt a n.toNat (hSt (txO S a)) (hSb (txO S a)) (hSb (txO S a)) (hMo (txO S a)) false) r' :: Ti w0.heap.size gt g a (best (openS S a) a) false :: Di w0.heap.size g (openS S a) :: Ps) := (all_idx [_, _, _] 3 [0, 2, 1] hx rfl (by decide))
    by_cases hz : ringE (openS S a) = 0
    · have hon : (openS S a).on = true := by
        cases ho : (openS S a).on with
        | true => rfl
        | false => unfold ringE at hz; rw [ho] at hz; exact absurd hz (by decide)
      have hlb : (topT S a n).bs.length = hSb (txO S a) - hSt (txO S a) := by
        show (bsOf _ _ _ _ _).length = _
        unfold bsOf
        simp
        omega
      have hfin : (topT S a n).fin = hSb (txO S a) := by
        show hSt (txO S a) + (topT S a n).bs.length = _
        rw [hlb]
        omega
      have hO : (topT S a n).Ok n.toNat := ⟨by omega, by omega, q1, by rw [hfin]; exact Nat.le_refl _, by rw [hlb]; exact q2, by rw [hfin]; exact q3, q4⟩
      have er : r' = ring n.toNat (topT S a n).start (topT S a n).bs := ring_of (hr hon)
      have ec : rcs gR g gt a n.toNat (hSt (txO S a)) (hSb (txO S a)) (hSb (txO S a)) (hMo (txO S a)) false = tcs gR g gt a n.toNat (topT S a n) := by
        unfold tcs
        rw [hfin]
        rfl
      rw [er, ec] at hx2
      exact .inl ⟨hz, h1, h2, h3, hz, gt, gR, tr_tp hx2 hO⟩
    · exact .inr ⟨hz, by unfold openTE; rw [if_neg (by rw [h1]; decide), if_neg (by rw [h2]; decide), if_neg (by rw [h3]; decide)], hz, by unfold openTS; rw [if_neg (by rw [h1]; decide)]; exact hx2.tail.tail⟩
  | i + 4, hi, hv => simp [fsO] at hv
theorem oi_has {Qs : List (World → List Nat → Prop)} {gb i : Nat} {W : World} {cs : List Value} (m : Bl w0.heap.size gb 51 cs ∈ Qs) (hi : OI w0 gT g a n S Qs i W) (k : Nat) (_hk : k < 4) : W.cell? ⟨gb, k, none⟩ = cs[k]? := by
  have key : ∀ X, All w0 W X → (∀ P, P ∈ Qs → P ∈ X) → W.cell? ⟨gb, k, none⟩ = cs[k]? := fun X h hs => (all_has h (hs _ m)).cell k
  match i, hi with
  | 0, hi => exact key _ (show All w0 W (_ :: _ :: Qs) from hi) (fun P h => by simp [h])
  | 1, ⟨_, hi⟩ => exact key _ hi (fun P h => by simp [h])
  | 2, ⟨_, _, _, hi⟩ => exact key _ hi (fun P h => by simp [h])
  | 3, ⟨_, _, _, _, _, hi⟩ => exact key _ hi (fun P h => by simp [h])
  | 4, ⟨_, _, _, _, _, _, hi⟩ => exact key _ hi (fun P h => by simp [h])
  | i + 5, hi => exact (show False from hi).elim
theorem drop5 {α : Type} (a b c d e : α) (X Y : List α) : (X ++ a :: b :: c :: d :: e :: Y).Perm (a :: b :: c :: d :: e :: (X ++ Y)) := by
  have h : (X ++ ([a, b, c, d, e] ++ Y)).Perm ([a, b, c, d, e] ++ (X ++ Y)) := by
    rw [← List.append_assoc, ← List.append_assoc]
    exact List.Perm.append_right Y List.perm_append_comm
  exact h
/-- What Open leaves. -/
def OpenT (w0 : World) (g : Nat) (a n : Int) (S : St) (Ps : List (World → List Nat → Prop)) (v : Value) (W : World) : Prop :=
  (openTE S a n ≠ 0 ∧ v = .pointer none ∧ All w0 W (Di w0.heap.size g (openTS S a n) :: Ps)) ∨
  (openTE S a n = 0 ∧ ∃ gT gR gt, v = .pointer (some ⟨gT, 0, none⟩) ∧ All w0 W (Tp w0.heap.size gT gR g gt a n.toNat (topT S a n) :: Ti w0.heap.size gt g a (best (openS S a) a) false :: Di w0.heap.size g (openTS S a n) :: Ps))
set_option maxHeartbeats 4000000 in
theorem open_walk2 (hA : All w0 w (Di w0.heap.size g S :: Ps)) (a n : Int) (hlen : S.un.length < 999999990) :
    Calls Try.prog 11 #[.pointer (some ⟨g, 0, none⟩), .int .i64 a, .int .i64 n] w fun e w' => ∃ v, e = .returned (.tuple #[v, .int .i64 (openTE S a n)]) ∧ OpenT w0 g a n S Ps v w' := by
  have hok : S.fl.length ≤ 4096 := (di_ok hA).2.2.1
  go_enter Try.func11, Try.ntmps11
  go_wp2_with fail
  have A6 := bl_new (bl_new (bl_new (bl_new (bl_new (bl_new hA 25 [.pointer (some ⟨g, 0, none⟩)]) 3 [.int .i64 a]) 3 [.int .i64 n]) 80 (cs0 g a (.pointer none))) 26 [.pointer (some ⟨w.heap.size + 1 + 1 + 1, 0, none⟩)]) 51 (fsO (w.heap.size + 1 + 1 + 1) w.heap.size (w.heap.size + 1) (w.heap.size + 1 + 1) (w.heap.size + 1 + 1 + 1 + 1))
  simp only [World.size_alloc] at A6
  have A7 := all_idx [_, _, _, _, _, _, _] 7 [6, 2, 3, 4, 5, 1, 0] A6 rfl (by decide)
  clear A6
  obtain ⟨Qs, eQ⟩ : ∃ Qs, Qs = (Bl w0.heap.size (w.heap.size + 1 + 1) 3 [.int .i64 n] :: Bl w0.heap.size (w.heap.size + 1) 3 [.int .i64 a] :: Bl w0.heap.size w.heap.size 25 [.pointer (some ⟨g, 0, none⟩)] :: Bl w0.heap.size (w.heap.size + 1 + 1 + 1 + 1) 26 [.pointer (some ⟨w.heap.size + 1 + 1 + 1, 0, none⟩)] ::
    Bl w0.heap.size (w.heap.size + 1 + 1 + 1 + 1 + 1) 51 (fsO (w.heap.size + 1 + 1 + 1) w.heap.size (w.heap.size + 1) (w.heap.size + 1 + 1) (w.heap.size + 1 + 1 + 1 + 1)) :: Ps) := ⟨_, rfl⟩
  have hto : ∀ W, All w0 W (Di w0.heap.size g S :: Bl w0.heap.size (w.heap.size + 1 + 1 + 1) 80 (cs0 g a (.pointer none)) :: (Bl w0.heap.size (w.heap.size + 1 + 1) 3 [.int .i64 n] :: Bl w0.heap.size (w.heap.size + 1) 3 [.int .i64 a] :: Bl w0.heap.size w.heap.size 25 [.pointer (some ⟨g, 0, none⟩)] :: Bl w0.heap.size (w.heap.size + 1 + 1 + 1 + 1) 26 [.pointer (some ⟨w.heap.size + 1 + 1 + 1, 0, none⟩)] :: Bl w0.heap.size (w.heap.size + 1 + 1 + 1 + 1 + 1) 51 (fsO (w.heap.size + 1 + 1 + 1) w.heap.size (w.heap.size + 1) (w.heap.size + 1 + 1) (w.heap.size + 1 + 1 + 1 + 1)) :: Ps)) → All w0 W (Di w0.heap.size g S :: Bl w0.heap.size (w.heap.size + 1 + 1 + 1) 80 (cs0 g a (.pointer none)) :: Qs) := by
    intro W h
    rw [eQ]
    exact h
  have A8 := hto _ A7
  clear hto
  clear A7
  have m1 : Bl w0.heap.size (w.heap.size + 1 + 1 + 1 + 1) 26 [.pointer (some ⟨w.heap.size + 1 + 1 + 1, 0, none⟩)] ∈ Qs := by rw [eQ]; simp
  have m2 : Bl w0.heap.size w.heap.size 25 [.pointer (some ⟨g, 0, none⟩)] ∈ Qs := by rw [eQ]; simp
  have m3 : Bl w0.heap.size (w.heap.size + 1) 3 [.int .i64 a] ∈ Qs := by rw [eQ]; simp
  have m4 : Bl w0.heap.size (w.heap.size + 1 + 1) 3 [.int .i64 n] ∈ Qs := by rw [eQ]; simp
  have m5 : Bl w0.heap.size (w.heap.size + 1 + 1 + 1 + 1 + 1) 51 (fsO (w.heap.size + 1 + 1 + 1) w.heap.size (w.heap.size + 1) (w.heap.size + 1 + 1) (w.heap.size + 1 + 1 + 1 + 1)) ∈ Qs := by rw [eQ]; simp
  have hI := fun i W hi => oi_has (w0 := w0) (gT := w.heap.size + 1 + 1 + 1) (g := g) (a := a) (n := n) (S := S) (i := i) (W := W) m5 hi
  have hfin : ∀ W (X : List (World → List Nat → Prop)), All w0 W (X ++ Qs) → All w0 W (X ++ Ps) := by
    intro W X h
    rw [eQ] at h
    exact (h.perm (drop5 _ _ _ _ _ X Ps)).tail.tail.tail.tail.tail
  have HFIN := Lib.hid hfin
  clear hfin hA eQ
  refine (first_walk _ (w.heap.size + 1 + 1 + 1 + 1 + 1) 4 4 (by decide) (by decide) (OI w0 (w.heap.size + 1 + 1 + 1) g a n S Qs) (OE w0 g a n S Qs) _ rfl hI A8 (asks_open hlen hok m1 m2 m3 m4)).mono ?_
  rintro e W ⟨c, rfl, hx⟩
  clear A8 hI
  rcases hx with ⟨rfl, hx⟩ | ⟨hc, hx⟩
  · obtain ⟨h1, h2, h3, h4, gt, gR, hA⟩ : refT S.fl.length a n = 0 ∧ openE S a = 0 ∧ headE n.toNat (txO S a) = 0 ∧ ringE (openS S a) = 0 ∧ ∃ gt gR, All w0 W (Tp w0.heap.size (w.heap.size + 1 + 1 + 1) gR g gt a n.toNat (topT S a n) :: Ti w0.heap.size gt g a (best (openS S a) a) false :: Di w0.heap.size g (openS S a) :: Qs) := hx
    have c1 := (all_has hA (List.mem_cons_of_mem _ (List.mem_cons_of_mem _ (List.mem_cons_of_mem _ m1)))).cell 0
    have hz : openTE S a n = 0 := by unfold openTE; rw [if_neg (by rw [h1]; decide), if_neg (by rw [h2]; decide), if_neg (by rw [h3]; decide)]; exact h4
    have hs : openTS S a n = openS S a := by unfold openTS; rw [if_neg (by rw [h1]; decide)]
    have HR : Hid (OpenT w0 g a n S Ps (.pointer (some ⟨w.heap.size + 1 + 1 + 1, 0, none⟩)) W) := Lib.hid (.inr ⟨hz, _, gR, gt, rfl, by rw [hs]; exact HFIN.out W [_, _, _] hA⟩)
    have HZ := Lib.hid hz
    clear hA hz hs m1 m2 m3 m4 m5
    go_wp2
    go_ret2
    exact ⟨_, by rw [HZ.out]; rfl, HR.out⟩
  · obtain ⟨he, hc2, hA⟩ := hx
    have hcb : (c == 0) = false := by rw [beq_eq_false_iff_ne]; exact hc
    have HR : Hid (c = openTE S a n ∧ OpenT w0 g a n S Ps (.pointer none) W) := Lib.hid ⟨he, .inl ⟨by rw [← he]; exact hc, rfl, HFIN.out W [_] hA⟩⟩
    clear hA he m1 m2 m3 m4 m5
    go_wp2
    go_ret2
    exact ⟨_, by rw [← HR.out.1]; rfl, HR.out.2⟩
end
end TO2
end Go.Proofs.Ytkhdidhpcdlmcaa
