/- Bytes are read as an entry: read. -/
import Derived.Test.YtkhdidhpcdlmcaaLrecRead
import Derived.Test.YtkhdidhpcdlmcaaFootLaws
import Derived.Deep.RegionHeld3
import Derived.Deep.AppendLies
namespace Go.Proofs.Ytkhdidhpcdlmcaa
set_option maxRecDepth 100000
open Go.RowKit Go.Lib MM MS MF DE WM WP WR CM CE FL LM LQ LC LA RS LR
namespace LTk
/-- The cells of operations. -/
def rcells : List Ro → List Value
  | [] => []
  | x :: r => ocells x ++ rcells r
theorem rcells_end (l : List Ro) (x : Ro) : rcells (l ++ [x]) = rcells l ++ ocells x := by
  induction l with
  | nil => simp [rcells]
  | cons y r ih => simp only [List.cons_append, rcells, ih, List.append_assoc]
theorem rcells_at : ∀ (l : List Ro) (i j : Nat) (x : Ro), j < 4 → l[i]? = some x → (rcells l)[i * 4 + j]? = (ocells x)[j]?
  | [], i, j, x, _, h => by simp at h
  | y :: r, 0, j, x, hj, h => by
    simp at h
    subst h
    simp only [rcells, Nat.zero_mul, Nat.zero_add]
    exact List.getElem?_append_left (by simpa [ocells] using hj)
  | y :: r, i + 1, j, x, hj, h => by
    have ih := rcells_at r i j x hj (by simpa using h)
    simp only [rcells]
    rw [List.getElem?_append_right (by simp [ocells]; omega), ← ih]
    congr 1
    simp [ocells]
    omega
theorem lst_of_owns {w : World} {B : Nat} {v : Value} {l : List Ro} (h : w.ownsRow B 57 4 v l.length (rcells l)) (hb : ∀ x ∈ l, x.key.length ≤ 9223372036854775807 ∧ x.lsn < 18446744073709551616 ∧ x.val.length ≤ 9223372036854775807) : Lst w 4 QO v l := by
  rcases Nat.eq_zero_or_pos l.length with h0 | h0
  · obtain ⟨_, ⟨rfl, _⟩ | ⟨g, cap, cur, rfl, _, _, h3, h4, _⟩⟩ := h
    · exact ⟨none, 0, by rw [h0], by omega, by unfold maxLen; omega, fun h => by omega⟩
    · exact ⟨_, cap, rfl, h3, h4, fun h => by omega⟩
  · obtain ⟨_, ⟨_, hz⟩ | ⟨g, cap, cur, rfl, h1, h2, h3, h4, h5, h6⟩⟩ := id h
    · omega
    · refine ⟨some ⟨g, 0, none⟩, cap, rfl, h3, h4, fun _ => ⟨g, 0, rfl, lt_of_block h2, fun i x hi => ?_⟩⟩
      have hil := (List.getElem?_eq_some_iff.1 hi).1
      have hx := hb x (List.mem_of_getElem? hi)
      refine ⟨ocells x, rfl, ⟨hx.1, hx.2.1, hx.2.2, rfl⟩, fun j hj => ?_⟩
      rw [Nat.zero_add, World.ownsRow.cellAt h (i * 4 + j) (by omega), rcells_at l i j x hj hi]
theorem opS_bounds {s s1 : List UInt8} {b b1 : Bool} {n : Nat} {x : Ro} (h : opS s b n = some (x, s1, b1)) : x.key.length ≤ s.length ∧ x.val.length ≤ s.length ∧ x.lsn = n ∧ s1.length ≤ s.length := by
  have l1 := textS_le s b
  have l2 := numS_le (textS s b).2.1 (textS s b).2.2
  have l3 := textS_le (numS (textS s b).2.1 (textS s b).2.2).2.1 (numS (textS s b).2.1 (textS s b).2.2).2.2
  unfold opS at h
  simp only at h
  split at h
  · cases h
  · simp only [Option.some.injEq, Prod.mk.injEq] at h
    obtain ⟨rfl, rfl, _⟩ := h
    refine ⟨l1.2, ?_, rfl, ?_⟩
    · exact Nat.le_trans l3.2 (Nat.le_trans l2 l1.1)
    · exact Nat.le_trans l3.1 (Nat.le_trans l2 l1.1)
theorem only_drew (w : World) (row : Option Nat) : w.grownBy w.drew row := ⟨rfl, rfl, rfl, Nat.le_refl _, fun _ _ _ => rfl⟩
def finE (a f : Nat) (o : Option (List Ro × List UInt8 × Bool)) : Option En := match o with
  | none => none
  | some (l, s, bad) => if (!bad && s.isEmpty) = true ∧ checkE ⟨a, f, l⟩ = 0 then some ⟨a, f, l⟩ else none
def joinO (l : List Ro) (o : Option (List Ro × List UInt8 × Bool)) : Option (List Ro × List UInt8 × Bool) := match o with
  | none => none
  | some (l', s', b') => some (l ++ l', s', b')
theorem join_none {f n k : Nat} {l : List Ro} {s : List UInt8} {b : Bool} {R : Option (List Ro × List UInt8 × Bool)} (h : joinO l (opsS f (n - k) k s b) = R) (hk : k < n) (ho : opS s b ((f + k) % 18446744073709551616) = none) : R = none := by
  rw [show n - k = (n - (k + 1)) + 1 by omega] at h
  simp only [opsS, ho] at h
  exact h.symm
theorem join_some {f n k : Nat} {l : List Ro} {s s1 : List UInt8} {b b1 : Bool} {x : Ro} {R : Option (List Ro × List UInt8 × Bool)} (h : joinO l (opsS f (n - k) k s b) = R) (hk : k < n) (ho : opS s b ((f + k) % 18446744073709551616) = some (x, s1, b1)) : joinO (l ++ [x]) (opsS f (n - (k + 1)) (k + 1) s1 b1) = R := by
  rw [show n - k = (n - (k + 1)) + 1 by omega] at h
  simp only [opsS, ho] at h
  rw [← h]
  rcases opsS f (n - (k + 1)) (k + 1) s1 b1 with _ | ⟨l', s', b'⟩
  · rfl
  · simp [joinO]
/-- What a round of read finds. -/
structure Inv (w wr : World) (B g ge gx a f n : Nat) (R : Option (List Ro × List UInt8 × Bool)) (k : Nat) (l : List Ro) (s : List UInt8) (b : Bool) (v : Value) : Prop where
  rd : Rd wr g s b
  len : s.length ≤ 140737488355328
  x : Has wr gx 60 [.int .u64 0, .int .u64 0, .slice none 0 0]
  e : Has wr ge 60 [.int .u64 a, .int .u64 f, v]
  own : wr.ownsRow B 57 4 v k (rcells l)
  many : l.length = k
  bnd : ∀ x ∈ l, x.key.length ≤ 9223372036854775807 ∧ x.lsn < 18446744073709551616 ∧ x.val.length ≤ 9223372036854775807
  join : joinO l (opsS f (n - k) k s b) = R
  below : Below w.heap.size w wr
  base : B ≤ wr.heap.size
/-- What read leaves. -/
def ReadEnd (w : World) (o : Option En) (e : Ending) (w' : World) : Prop :=
  Below w.heap.size w w' ∧ match o with
    | some E => ∃ v, e = .returned (.agg (ecells E v).toArray) ∧ Ew w' E v ∧ ∀ q, v.ownBlock = some q → w.heap.size ≤ q
    | none => Gave e
theorem recInfo : (Try.prog.info? 57).map (fun i => (i.zero, i.size, i.bytes)) = some (some (.agg #[.string ⟨#[]⟩, .int .u64 0, .bool false, .string ⟨#[]⟩]), 4, 48) := by kernel_rfl
theorem wrap_u64 (f k : Nat) : IntKind.u64.wrap ((f : Int) + (k : Int)) = (((f + k) % 18446744073709551616 : Nat) : Int) := by unfold IntKind.wrap; simp [IntKind.bits, IntKind.signed]
set_option maxHeartbeats 8000000 in
theorem read_walk (w : World) (t : List UInt8) (ht : t.length ≤ 140737488355328) : Calls Try.prog 125 #[.string ⟨t.toArray⟩] w (ReadEnd w (entS t)) := by
  rcases ha : numS t false with ⟨a, s1, b1⟩
  rcases hb : numS s1 b1 with ⟨f, s2, b2⟩
  rcases hc : numS s2 b2 with ⟨n, s3, b3⟩
  have l1 := numS_le t false
  rw [ha] at l1
  have l2 := numS_le s1 b1
  rw [hb] at l2
  have l3 := numS_le s2 b2
  rw [hc] at l3
  have u1 := numS_u64 t false
  rw [ha] at u1
  have u2 := numS_u64 s1 b1
  rw [hb] at u2
  simp only at l1 l2 l3 u1 u2
  have hent : entS t = if 6 < n then none else finE a f (opsS f n 0 s3 b3) := by
    unfold entS
    simp only [ha, hb, hc]
    by_cases h : 6 < n
    · rw [if_pos h, if_pos h]
    · rw [if_neg h, if_neg h]
      rcases opsS f n 0 s3 b3 with _ | ⟨l, s, bad⟩ <;> rfl
  have HENT := Lib.hid hent
  obtain ⟨w0, hw0⟩ : ∃ w0, w0 = w.alloc (.cells #[.int .u64 0, .int .u64 0, .slice none 0 0] 60) := ⟨_, rfl⟩
  have B0 : Below w.heap.size w w0 := by rw [hw0]; exact (Below.refl _ _).alloc (Nat.le_refl _) _
  obtain ⟨gx, egx⟩ : ∃ gx, gx = w.heap.size := ⟨_, rfl⟩
  have hx0 : Has w0 gx 60 [.int .u64 0, .int .u64 0, .slice none 0 0] := by rw [hw0, egx]; exact heap_alloc_new _ _
  have T1 := Lib.hid (fun (w1 : World) (g : Nat) (h1 : Rd w1 g t false) => num_walk t false ht g w1 h1)
  rw [ha] at T1
  have T2 := Lib.hid (fun (w1 : World) (g : Nat) (h1 : Rd w1 g s1 b1) => num_walk s1 b1 (by omega) g w1 h1)
  rw [hb] at T2
  have T3 := Lib.hid (fun (w1 : World) (g : Nat) (h1 : Rd w1 g s2 b2) => num_walk s2 b2 (by omega) g w1 h1)
  rw [hc] at T3
  have hl3 : s3.length ≤ 140737488355328 := by omega
  have HNR := Lib.hid (newReader_walk t w0)
  have HB0 := Lib.hid B0
  have HX0 := Lib.hid hx0
  have HL3 := Lib.hid hl3
  have HGX : Hid (gx < w0.heap.size) := Lib.hid hx0.lt
  have HGXW : Hid (gx = w.heap.size) := Lib.hid egx
  clear hent ha hb hc l1 l2 l3 ht B0 hx0 hl3
  go_enter Try.func125, Try.ntmps125
  go_wp2_with fail
  rw [← hw0]
  rw [← egx]
  clear hw0 egx
  refine HNR.out.mono ?_
  rintro e w1 ⟨rfl, r1, b1'⟩
  obtain ⟨g, eg⟩ : ∃ g, g = w0.heap.size := ⟨_, rfl⟩
  rw [← eg] at r1 ⊢
  have HG : Hid (w.heap.size ≤ g ∧ gx ≠ g) := Lib.hid ⟨by rw [eg]; exact HB0.out.size, by rw [eg]; exact Nat.ne_of_lt HGX.out⟩
  have HB1 := Lib.hid (HB0.out.trans (b1'.mono HB0.out.size))
  have HX1 := Lib.hid (HX0.out.under b1' HX0.out.lt)
  clear b1' HB0 HX0 HNR eg HGX
  go_wp2_with fail
  refine (T1.out w1 g r1).mono ?_
  rintro e w2 ⟨rfl, r2, k2⟩
  have HB2 : Hid (Below w.heap.size w w2) := Lib.hid (HB1.out.grown k2 HB1.out.size (fun _ e => by cases e; exact HG.out.1))
  have HX2 := Lib.hid (HX1.out.but k2 (fun e => HG.out.2 (by injection e)))
  clear k2 HB1 HX1 r1 T1
  go_wp2_with fail
  refine (T2.out w2 g r2).mono ?_
  rintro e w3 ⟨rfl, r3, k3⟩
  have HB3 : Hid (Below w.heap.size w w3) := Lib.hid (HB2.out.grown k3 HB2.out.size (fun _ e => by cases e; exact HG.out.1))
  have HX3 := Lib.hid (HX2.out.but k3 (fun e => HG.out.2 (by injection e)))
  clear k3 HB2 HX2 r2 T2
  obtain ⟨ge, ege⟩ : ∃ ge, ge = w3.heap.size := ⟨_, rfl⟩
  obtain ⟨w4, hw4⟩ : ∃ w4, w4 = w3.alloc (.cells #[.int .u64 a, .int .u64 f, .slice none 0 0] 60) := ⟨_, rfl⟩
  have r4 : Rd w4 g s2 b2 := by rw [hw4]; exact r3.grow _
  have HB4 : Hid (Below w.heap.size w w4) := Lib.hid (by rw [hw4]; exact HB3.out.alloc HB3.out.size _)
  have HX4 : Hid (Has w4 gx 60 [.int .u64 0, .int .u64 0, .slice none 0 0]) := Lib.hid (by rw [hw4]; exact HX3.out.grow _)
  have HE4 : Hid (Has w4 ge 60 [.int .u64 a, .int .u64 f, .slice none 0 0]) := Lib.hid (by rw [hw4, ege]; exact heap_alloc_new _ _)
  have HGE : Hid (w.heap.size ≤ ge ∧ gx ≠ ge ∧ g ≠ ge ∧ ge < w4.heap.size) := Lib.hid ⟨by rw [ege]; exact HB3.out.size, by rw [ege]; exact Nat.ne_of_lt HX3.out.lt, by rw [ege]; exact Nat.ne_of_lt r3.lt, HE4.out.lt⟩
  clear HB3 HX3 r3
  go_wp2_with fail
  try rw [← ege]
  try rw [← hw4]
  clear hw4
  refine (T3.out w4 g r4).mono ?_
  rintro e w5 ⟨rfl, r5, k5⟩
  have HB5 : Hid (Below w.heap.size w w5) := Lib.hid (HB4.out.grown k5 HB4.out.size (fun _ e => by cases e; exact HG.out.1))
  have HX5 := Lib.hid (HX4.out.but k5 (fun e => HG.out.2 (by injection e)))
  have HE5 := Lib.hid (HE4.out.but k5 (fun e => HGE.out.2.2.1 (by injection e with e; exact e.symm)))
  have HSZ5 : Hid (ge + 1 ≤ w5.heap.size ∧ g + 1 ≤ w5.heap.size ∧ gx + 1 ≤ w5.heap.size) := Lib.hid ⟨HE5.out.lt, r5.lt, HX5.out.lt⟩
  clear k5 HB4 HX4 HE4 r4 T3 ege
  by_cases h6 : 6 < n
  · have dd : decide ((n : Int) ≤ 6) = false := decide_eq_false (by omega)
    have HON : Hid (entS t = none) := Lib.hid (by rw [HENT.out, if_pos h6])
    clear h6
    go_wp2_with (go_at_call 122; refine (must_no _).mono ?_; rintro e w6 ⟨⟨pv, rfl⟩, rfl⟩)
    refine ⟨rfl, ?_⟩
    unfold ReadEnd
    rw [HON.out]
    exact ⟨HB5.out, ⟨_, rfl⟩⟩
  · have dd : decide ((n : Int) ≤ 6) = true := decide_eq_true (by omega)
    have HEN : Hid (entS t = finE a f (opsS f n 0 s3 b3)) := Lib.hid (by rw [HENT.out, if_neg h6])
    have hn6 : n ≤ 6 := by omega
    clear h6 HENT
    go_wp2_with (go_at_call 122; refine (must_yes _).mono ?_; rintro e w6 ⟨rfl, rfl⟩)
    obtain ⟨B, hB⟩ : ∃ B, B = w6.heap.size := ⟨_, rfl⟩
    have HBB : Hid (ge < B ∧ g < B ∧ gx < B ∧ w.heap.size ≤ B) := Lib.hid ⟨by rw [hB]; exact HSZ5.out.1, by rw [hB]; exact HSZ5.out.2.1, by rw [hB]; exact HSZ5.out.2.2, by rw [hB]; exact HB5.out.size⟩
    have HBS : Hid (B ≤ w6.heap.size) := Lib.hid (by rw [hB]; exact Nat.le_refl _)
    clear hB HSZ5
    go_loopw [20] (fun i wr => ∃ (k : Nat) (l : List Ro) (s : List UInt8) (b : Bool) (v : Value), k ≤ n ∧ i = .int .u64 k ∧ Hid (Inv w wr B g ge gx a f n (opsS f n 0 s3 b3) k l s b v)) (fun i _ => n - (match i with | .int _ q => q.toNat | _ => 0))
    case atStart =>
      refine ⟨0, [], s3, b3, .slice none 0 0, Nat.zero_le _, rfl, Lib.hid ⟨r5, HL3.out, HX5.out, HE5.out, World.ownsRow_nil _ _ _ _, rfl, by simp, ?_, HB5.out, HBS.out⟩⟩
      rw [Nat.sub_zero]
      rcases opsS f n 0 s3 b3 with _ | ⟨l', s', b'⟩ <;> rfl
    case round =>
      obtain ⟨k, l, s, b, v, hk, rfl, HV⟩ := hrel
      clear r5 HB5 HX5 HE5 HBS HL3
      rcases Nat.lt_or_ge k n with hk1 | hk1
      · have HRO := Lib.hid (fun (w1 : World) (h1 : Rd w1 g s b) => readOp_walk w1 g s b ((f + k) % 18446744073709551616) HV.out.len h1)
        have e3 := wrap_u64 f k
        have e4 : IntKind.u64.wrap ((k : Int) + 1) = ((k + 1 : Nat) : Int) := by unfold IntKind.wrap; simp [IntKind.bits, IntKind.signed]; omega
        obtain ⟨m, hm⟩ : ∃ m, m = (f + k) % 18446744073709551616 := ⟨_, rfl⟩
        have hm64 : m < 18446744073709551616 := by rw [hm]; exact Nat.mod_lt _ (by decide)
        have HM := Lib.hid hm
        rw [← hm] at e3 HRO
        have bd : wr.drew.cell? ⟨ge, 1, none⟩ = some (.int .u64 f) := HV.out.e.draw.cell 1
        have c2 : wr.drew.cell? ⟨ge, 2, none⟩ = some v := HV.out.e.draw.cell 2
        have HM64 := Lib.hid hm64
        clear hm hm64
        rcases ho : opS s b m with _ | ⟨x, s1', b1'⟩
        · rw [ho] at HRO
          have HON : Hid (entS t = none) := Lib.hid (by rw [HEN.out, join_none HV.out.join hk1 (by rw [← HM.out]; exact ho)]; rfl)
          clear ho
          go_wp2_with fail
          refine wp_region_held_drew (S := fun w' => w'.cell? ⟨ge, 1, none⟩ = some (.int .u64 f)) (by kernel_rfl) bd (fun hS => ?_)
          refine wpAnyH_take (i := 0) (v := (.pointer (some ⟨ge, 2, none⟩))) (lit rfl) (by kernel_rfl) (by kernel_rfl) (by kernel_rfl) (fun _ _ _ h => h) (Or.inl ⟨by rfl, fun w hw => by go_simp⟩) bd ?_
          simp only [Act.put, List.setIfInBounds_toArray, List.set_cons_zero, List.set_cons_succ]
          refine wpAnyH_take (i := 2) (v := (.pointer (some ⟨g, 0, none⟩))) (lit rfl) (by kernel_rfl) (by kernel_rfl) (by kernel_rfl) (fun _ _ _ h => h) (Or.inl ⟨by rfl, fun w hw => by go_simp⟩) bd ?_
          simp only [Act.put, List.setIfInBounds_toArray, List.set_cons_zero, List.set_cons_succ]
          refine wpAnyH_take (i := 3) (v := (.pointer (some ⟨ge, 1, none⟩))) (lit rfl) (by kernel_rfl) (by kernel_rfl) (by kernel_rfl) (fun _ _ _ h => h) (Or.inl ⟨by rfl, fun w hw => by go_simp⟩) bd ?_
          simp only [Act.put, List.setIfInBounds_toArray, List.set_cons_zero, List.set_cons_succ]
          refine wpAnyH_take (i := 4) (v := (.int .u64 f)) (lit rfl) (by kernel_rfl) (by kernel_rfl) (by kernel_rfl) (fun _ _ _ h => h) (Or.inl ⟨by rfl, fun w hw => by go_simp⟩) bd ?_
          simp only [Act.put, List.setIfInBounds_toArray, List.set_cons_zero, List.set_cons_succ]
          refine wpAnyH_take (i := 5) (v := (.int .u64 k)) (lit rfl) (by kernel_rfl) (by kernel_rfl) (by kernel_rfl) (fun _ _ _ h => h) (Or.inl ⟨by rfl, fun w hw => by go_simp⟩) bd ?_
          simp only [Act.put, List.setIfInBounds_toArray, List.set_cons_zero, List.set_cons_succ]
          refine wpAnyH_take (i := 6) (v := (.int .u64 m)) (lit rfl) (by kernel_rfl) (by kernel_rfl) (by kernel_rfl) (fun _ _ _ h => h) (Or.inl ⟨by rfl, fun w hw => by go_simp⟩) bd ?_
          simp only [Act.put, List.setIfInBounds_toArray, List.set_cons_zero, List.set_cons_succ]
          refine wpAnyH_ready (rs := [1, 7]) (by kernel_rfl) (by simp) (AllReadyH.cons (lit rfl) (fun K hK => ?_) (AllReadyH.cons (lit rfl) (fun K hK => ?_) AllReadyH.nil))
          · go_simp
            refine hK.out _ _ bd (fun _ => ?_)
            clear hK K
            refine wpAnyH_ready (rs := [7]) (by kernel_rfl) (by simp) (AllReadyH.cons (lit rfl) (fun K hK => ?_) AllReadyH.nil)
            go_simp
            go_wp2_with (go_at_call 133; refine (HRO.out _ HV.out.rd.draw).mono ?_; rintro e w7 ⟨k7, ⟨pv, rfl⟩⟩)
            clear hK K
            refine ⟨rfl, ?_⟩
            unfold ReadEnd
            rw [HON.out]
            exact ⟨HV.out.below.grown (row := some g) (only_step (only_drew wr _) k7) HV.out.below.size (fun _ e => by cases e; exact HG.out.1), ⟨_, rfl⟩⟩
          · go_simp
            go_wp2_with (go_at_call 133; refine (HRO.out _ HV.out.rd.draw).mono ?_; rintro e w7 ⟨k7, ⟨pv, rfl⟩⟩)
            clear hK K
            refine ⟨rfl, ?_⟩
            unfold ReadEnd
            rw [HON.out]
            exact ⟨HV.out.below.grown (row := some g) (only_step (only_drew wr _) k7) HV.out.below.size (fun _ e => by cases e; exact HG.out.1), ⟨_, rfl⟩⟩
        · rw [ho] at HRO
          obtain ⟨z1, z2, z3, z4⟩ := opS_bounds ho
          have HJ := Lib.hid (join_some HV.out.join hk1 (by rw [← HM.out]; exact ho))
          have hlen := HV.out.len
          have HXB : Hid (x.key.length ≤ 9223372036854775807 ∧ x.lsn < 18446744073709551616 ∧ x.val.length ≤ 9223372036854775807) := Lib.hid ⟨by clear e3 e4; omega, by rw [z3]; exact HM64.out, by clear e3 e4; omega⟩
          have HL1 : Hid (s1'.length ≤ 140737488355328) := Lib.hid (by clear e3 e4; omega)
          obtain ⟨i0, hi0, hz0, hs0, hb0⟩ := info_parts recInfo
          have HI := Lib.hid hi0
          have HZ0 := Lib.hid hz0
          have HS0 := Lib.hid hs0
          have HB0 := Lib.hid hb0
          have HONE : Hid (∀ u ∈ ocells x, u.oneCell' = true) := Lib.hid (fun u hu => by simp only [ocells, List.mem_cons, List.not_mem_nil, or_false] at hu; rcases hu with rfl | rfl | rfl | rfl <;> rfl)
          have hown := HV.out.own
          have HOG : Hid (v.ownBlock ≠ some g) := Lib.hid (fun e => absurd (hown.lt g e).1 (Nat.not_le.2 HBB.out.2.1))
          have HOE : Hid (v.ownBlock ≠ some ge) := Lib.hid (fun e => absurd (hown.lt ge e).1 (Nat.not_le.2 HBB.out.1))
          have HOX : Hid (v.ownBlock ≠ some gx) := Lib.hid (fun e => absurd (hown.lt gx e).1 (Nat.not_le.2 HBB.out.2.2.1))
          clear ho z1 z2 z3 z4 hlen hi0 hz0 hs0 hb0 hown
          go_wp2_with fail
          refine wp_region_held_drew (S := fun w' => w'.cell? ⟨ge, 1, none⟩ = some (.int .u64 f)) (by kernel_rfl) bd (fun hS => ?_)
          refine wpAnyH_take (i := 0) (v := (.pointer (some ⟨ge, 2, none⟩))) (lit rfl) (by kernel_rfl) (by kernel_rfl) (by kernel_rfl) (fun _ _ _ h => h) (Or.inl ⟨by rfl, fun w hw => by go_simp⟩) bd ?_
          simp only [Act.put, List.setIfInBounds_toArray, List.set_cons_zero, List.set_cons_succ]
          refine wpAnyH_take (i := 2) (v := (.pointer (some ⟨g, 0, none⟩))) (lit rfl) (by kernel_rfl) (by kernel_rfl) (by kernel_rfl) (fun _ _ _ h => h) (Or.inl ⟨by rfl, fun w hw => by go_simp⟩) bd ?_
          simp only [Act.put, List.setIfInBounds_toArray, List.set_cons_zero, List.set_cons_succ]
          refine wpAnyH_take (i := 3) (v := (.pointer (some ⟨ge, 1, none⟩))) (lit rfl) (by kernel_rfl) (by kernel_rfl) (by kernel_rfl) (fun _ _ _ h => h) (Or.inl ⟨by rfl, fun w hw => by go_simp⟩) bd ?_
          simp only [Act.put, List.setIfInBounds_toArray, List.set_cons_zero, List.set_cons_succ]
          refine wpAnyH_take (i := 4) (v := (.int .u64 f)) (lit rfl) (by kernel_rfl) (by kernel_rfl) (by kernel_rfl) (fun _ _ _ h => h) (Or.inl ⟨by rfl, fun w hw => by go_simp⟩) bd ?_
          simp only [Act.put, List.setIfInBounds_toArray, List.set_cons_zero, List.set_cons_succ]
          refine wpAnyH_take (i := 5) (v := (.int .u64 k)) (lit rfl) (by kernel_rfl) (by kernel_rfl) (by kernel_rfl) (fun _ _ _ h => h) (Or.inl ⟨by rfl, fun w hw => by go_simp⟩) bd ?_
          simp only [Act.put, List.setIfInBounds_toArray, List.set_cons_zero, List.set_cons_succ]
          refine wpAnyH_take (i := 6) (v := (.int .u64 m)) (lit rfl) (by kernel_rfl) (by kernel_rfl) (by kernel_rfl) (fun _ _ _ h => h) (Or.inl ⟨by rfl, fun w hw => by go_simp⟩) bd ?_
          simp only [Act.put, List.setIfInBounds_toArray, List.set_cons_zero, List.set_cons_succ]
          refine wpAnyH_ready (rs := [1, 7]) (by kernel_rfl) (by simp) (AllReadyH.cons (lit rfl) (fun K hK => ?_) (AllReadyH.cons (lit rfl) (fun K hK => ?_) AllReadyH.nil))
          · go_simp
            refine hK.out _ _ bd (fun _ => ?_)
            clear hK K
            refine wpAnyH_ready (rs := [7]) (by kernel_rfl) (by simp) (AllReadyH.cons (lit rfl) (fun K hK => ?_) AllReadyH.nil)
            go_simp
            go_wp2_with (go_at_call 133; refine (HRO.out _ HV.out.rd.draw).mono ?_; rintro e w7 ⟨k7, rfl, r7⟩)
            have k7' := only_step (only_drew wr _) k7
            have HE7 : Hid (Has w7 ge 60 [.int .u64 a, .int .u64 f, v]) := Lib.hid (HV.out.e.but k7' (fun e => HGE.out.2.2.1 (by injection e with e; exact e.symm)))
            have HX7 : Hid (Has w7 gx 60 [.int .u64 0, .int .u64 0, .slice none 0 0]) := Lib.hid (HV.out.x.but k7' (fun e => HG.out.2 (by injection e)))
            have HO7 : Hid (w7.ownsRow B 57 4 v k (rcells l)) := Lib.hid (HV.out.own.kept k7' (.inr HOG.out))
            have HB7 : Hid (Below w.heap.size w w7) := Lib.hid (HV.out.below.grown k7' HV.out.below.size (fun _ e => by cases e; exact HG.out.1))
            have HS7 : Hid (B ≤ w7.heap.size) := Lib.hid (Nat.le_trans HV.out.base k7'.size)
            have bd7 : w7.cell? ⟨ge, 1, none⟩ = some (.int .u64 f) := HE7.out.cell 1
            have c7 : w7.cell? ⟨ge, 2, none⟩ = some v := HE7.out.cell 2
            have bd8 : (w7.alloc (.cells #[.string ⟨x.key.toArray⟩, .int .u64 x.lsn, .bool x.del, .string ⟨x.val.toArray⟩] 57)).cell? ⟨ge, 1, none⟩ = some (.int .u64 f) := (HE7.out.grow _).cell 1
            have c8 : (w7.alloc (.cells #[.string ⟨x.key.toArray⟩, .int .u64 x.lsn, .bool x.del, .string ⟨x.val.toArray⟩] 57)).cell? ⟨ge, 2, none⟩ = some v := (HE7.out.grow _).cell 2
            have R7 := Lib.hid r7
            clear k7 k7' r7
            refine hK.out _ _ bd7 (fun _ => ?_)
            clear hK K
            refine wpAnyH_ready (rs := [8]) (by kernel_rfl) (by simp) (AllReadyH.cons (lit rfl) (fun K hK => ?_) AllReadyH.nil)
            unfold ocells
            go_simp
            refine hK.out _ _ bd8 (fun _ => ?_)
            clear hK K
            have HO8 := Lib.hid (HO7.out.alloc (.cells #[.string ⟨x.key.toArray⟩, .int .u64 x.lsn, .bool x.del, .string ⟨x.val.toArray⟩] 57))
            have HN8 : Hid (∀ j u, (ocells x)[j]? = some u → (w7.alloc (.cells #[.string ⟨x.key.toArray⟩, .int .u64 x.lsn, .bool x.del, .string ⟨x.val.toArray⟩] 57)).cell? ((⟨w7.heap.size, 0, none⟩ : Addr).add j) = some u) := Lib.hid (fun j u hj => by
              rw [add_plain, Nat.zero_add]
              exact ((show Has (w7.alloc (.cells #[.string ⟨x.key.toArray⟩, .int .u64 x.lsn, .bool x.del, .string ⟨x.val.toArray⟩] 57)) w7.heap.size 57 (ocells x) from heap_alloc_new _ _).cell j).trans hj)
            have HZ8 : Hid ((w7.alloc (.cells #[.string ⟨x.key.toArray⟩, .int .u64 x.lsn, .bool x.del, .string ⟨x.val.toArray⟩] 57)).heap.size = w7.heap.size + 1) := Lib.hid (World.size_alloc _ _)
            have hk6 : k + 1 ≤ 6 := by clear c8 c7 bd8 bd7 bd c2 e3 e4 dd; omega
            refine wpAnyH_ready (rs := [9]) (by kernel_rfl) (by simp) (AllReadyH.cons (lit rfl) (fun K hK => ?_) AllReadyH.nil)
            refine step_append_lies _ rfl (.tmp 24) (.tmp 31) 58 rfl B 57 i0 _ 4 48 Try.underlying58 HI.out HZ0.out HS0.out HB0.out (by simp [Value.cells]) (by decide) v k (rcells l) rfl HO8.out ⟨w7.heap.size, 0, none⟩ 1 1 (ocells x) rfl rfl HN8.out HONE.out (by decide) (by clear c8 c7 bd8 bd7 bd c2 e3 e4 dd; unfold maxLen; omega) (by clear c8 c7 bd8 bd7 bd c2 e3 e4 dd; omega) (by rw [HZ8.out]; exact Nat.le_succ_of_le HS7.out) (w7.heap.size + 1) HZ8.out ?_
            intro gu cu w9 hown9 hgrow hat hlt
            have HG9 : Hid (B ≤ gu) := Lib.hid (hown9.lt gu rfl).1
            have HO9 : Hid (w9.ownsRow B 57 4 (.slice (some ⟨gu, 0, none⟩) (k + 1) cu) (k + 1) (rcells (l ++ [x]))) := Lib.hid (by rw [rcells_end]; exact hown9)
            have HE9 : Hid (Has w9 ge 60 [.int .u64 a, .int .u64 f, v]) := Lib.hid ((HE7.out.grow _).but hgrow (fun e => HOE.out e.symm))
            have HX9 : Hid (Has w9 gx 60 [.int .u64 0, .int .u64 0, .slice none 0 0]) := Lib.hid ((HX7.out.grow _).but hgrow (fun e => HOX.out e.symm))
            have R9 : Hid (Rd w9 g s1' b1') := Lib.hid ((R7.out.grow _).but hgrow (fun e => HOG.out e.symm))
            have HB9 : Hid (Below w.heap.size w w9) := Lib.hid ((HB7.out.alloc HB7.out.size _).grown hgrow (by rw [HZ8.out]; exact Nat.le_succ_of_le HB7.out.size) (fun _ e => Nat.le_trans HBB.out.2.2.2 (HV.out.own.lt _ e).1))
            have HS9 : Hid (B ≤ w9.heap.size) := Lib.hid (Nat.le_trans (by rw [HZ8.out]; exact Nat.le_succ_of_le HS7.out) hgrow.size)
            have bd9 : w9.cell? ⟨ge, 1, none⟩ = some (.int .u64 f) := HE9.out.cell 1
            have c9 : w9.cell? ⟨ge, 2, none⟩ = some v := HE9.out.cell 2
            have f9 : w9.frozen? ⟨ge, 2, none⟩ = false := HE9.out.free 2
            have bd10 : (w9.setCell ⟨ge, 2, none⟩ (.slice (some ⟨gu, 0, none⟩) (k + 1) cu)).cell? ⟨ge, 1, none⟩ = some (.int .u64 f) := (HE9.out.put 2 (.slice (some ⟨gu, 0, none⟩) (k + 1) cu)).cell 1
            have HIN : Hid (Inv w (w9.setCell ⟨ge, 2, none⟩ (.slice (some ⟨gu, 0, none⟩) (k + 1) cu)) B g ge gx a f n (opsS f n 0 s3 b3) (k + 1) (l ++ [x]) s1' b1' (.slice (some ⟨gu, 0, none⟩) (k + 1) cu)) := Lib.hid
              ⟨R9.out.far (fun e => HGE.out.2.2.1 e) _, HL1.out, HX9.out.far (fun e => HGE.out.2.1 e) _, HE9.out.put 2 _, HO9.out.kept (only_write w9 ge 2 _) (.inr (fun e => by have e2 : gu = ge := (by injection e); have h1 := HBB.out.1; have h2 := HG9.out; rw [e2] at h2; exact absurd h1 (Nat.not_lt.2 h2))), by rw [List.length_append, HV.out.many]; rfl, fun y hy => by
                rcases List.mem_append.1 hy with h | h
                · exact HV.out.bnd y h
                · rw [List.mem_singleton.1 h]; exact HXB.out, HJ.out, HB9.out.setCell (Nat.le_trans HGE.out.1 (Nat.le_refl _)) _, by simpa [World.setCell] using HS9.out⟩
            clear hown9 hgrow hat hlt HO8 HN8 HZ8 hk6
            refine hK.out _ _ bd9 (fun _ => ?_)
            clear hK K
            simp only [Act.put, List.setIfInBounds_toArray, List.set_cons_zero, List.set_cons_succ]
            refine wpAnyH_ready (rs := [10]) (by kernel_rfl) (by simp) (AllReadyH.cons (lit rfl) (fun K hK => ?_) AllReadyH.nil)
            go_simp
            refine hK.out _ _ bd9 (fun _ => ?_)
            clear hK K
            refine wpAnyH_ready (rs := [11]) (by kernel_rfl) (by simp) (AllReadyH.cons (lit rfl) (fun K hK => ?_) AllReadyH.nil)
            go_simp
            refine hK.out _ _ bd10 (fun _ => ?_)
            clear hK K
            refine wpAnyH_done (by kernel_rfl) ?_ _
            go_wp2
            go_roundw
            case rel => exact ⟨k + 1, l ++ [x], s1', b1', _, hk1, by first | rfl | go_num, HIN⟩
            case measure => simp; omega
          · go_simp
            go_wp2_with (go_at_call 133; refine (HRO.out _ HV.out.rd.draw).mono ?_; rintro e w7 ⟨k7, rfl, r7⟩)
            have k7' := only_step (only_drew wr _) k7
            have HE7 : Hid (Has w7 ge 60 [.int .u64 a, .int .u64 f, v]) := Lib.hid (HV.out.e.but k7' (fun e => HGE.out.2.2.1 (by injection e with e; exact e.symm)))
            have HX7 : Hid (Has w7 gx 60 [.int .u64 0, .int .u64 0, .slice none 0 0]) := Lib.hid (HV.out.x.but k7' (fun e => HG.out.2 (by injection e)))
            have HO7 : Hid (w7.ownsRow B 57 4 v k (rcells l)) := Lib.hid (HV.out.own.kept k7' (.inr HOG.out))
            have HB7 : Hid (Below w.heap.size w w7) := Lib.hid (HV.out.below.grown k7' HV.out.below.size (fun _ e => by cases e; exact HG.out.1))
            have HS7 : Hid (B ≤ w7.heap.size) := Lib.hid (Nat.le_trans HV.out.base k7'.size)
            have bd7 : w7.cell? ⟨ge, 1, none⟩ = some (.int .u64 f) := HE7.out.cell 1
            have c7 : w7.cell? ⟨ge, 2, none⟩ = some v := HE7.out.cell 2
            have bd8 : (w7.alloc (.cells #[.string ⟨x.key.toArray⟩, .int .u64 x.lsn, .bool x.del, .string ⟨x.val.toArray⟩] 57)).cell? ⟨ge, 1, none⟩ = some (.int .u64 f) := (HE7.out.grow _).cell 1
            have c8 : (w7.alloc (.cells #[.string ⟨x.key.toArray⟩, .int .u64 x.lsn, .bool x.del, .string ⟨x.val.toArray⟩] 57)).cell? ⟨ge, 2, none⟩ = some v := (HE7.out.grow _).cell 2
            have R7 := Lib.hid r7
            clear k7 k7' r7
            refine hK.out _ _ bd7 (fun _ => ?_)
            clear hK K
            refine wpAnyH_ready (rs := [1, 8]) (by kernel_rfl) (by simp) (AllReadyH.cons (lit rfl) (fun K hK => ?_) (AllReadyH.cons (lit rfl) (fun K hK => ?_) AllReadyH.nil))
            · go_simp
              refine hK.out _ _ bd7 (fun _ => ?_)
              clear hK K
              refine wpAnyH_ready (rs := [8]) (by kernel_rfl) (by simp) (AllReadyH.cons (lit rfl) (fun K hK => ?_) AllReadyH.nil)
              unfold ocells
              go_simp
              refine hK.out _ _ bd8 (fun _ => ?_)
              clear hK K
              have HO8 := Lib.hid (HO7.out.alloc (.cells #[.string ⟨x.key.toArray⟩, .int .u64 x.lsn, .bool x.del, .string ⟨x.val.toArray⟩] 57))
              have HN8 : Hid (∀ j u, (ocells x)[j]? = some u → (w7.alloc (.cells #[.string ⟨x.key.toArray⟩, .int .u64 x.lsn, .bool x.del, .string ⟨x.val.toArray⟩] 57)).cell? ((⟨w7.heap.size, 0, none⟩ : Addr).add j) = some u) := Lib.hid (fun j u hj => by
                rw [add_plain, Nat.zero_add]
                exact ((show Has (w7.alloc (.cells #[.string ⟨x.key.toArray⟩, .int .u64 x.lsn, .bool x.del, .string ⟨x.val.toArray⟩] 57)) w7.heap.size 57 (ocells x) from heap_alloc_new _ _).cell j).trans hj)
              have HZ8 : Hid ((w7.alloc (.cells #[.string ⟨x.key.toArray⟩, .int .u64 x.lsn, .bool x.del, .string ⟨x.val.toArray⟩] 57)).heap.size = w7.heap.size + 1) := Lib.hid (World.size_alloc _ _)
              have hk6 : k + 1 ≤ 6 := by clear c8 c7 bd8 bd7 bd c2 e3 e4 dd; omega
              refine wpAnyH_ready (rs := [9]) (by kernel_rfl) (by simp) (AllReadyH.cons (lit rfl) (fun K hK => ?_) AllReadyH.nil)
              refine step_append_lies _ rfl (.tmp 24) (.tmp 31) 58 rfl B 57 i0 _ 4 48 Try.underlying58 HI.out HZ0.out HS0.out HB0.out (by simp [Value.cells]) (by decide) v k (rcells l) rfl HO8.out ⟨w7.heap.size, 0, none⟩ 1 1 (ocells x) rfl rfl HN8.out HONE.out (by decide) (by clear c8 c7 bd8 bd7 bd c2 e3 e4 dd; unfold maxLen; omega) (by clear c8 c7 bd8 bd7 bd c2 e3 e4 dd; omega) (by rw [HZ8.out]; exact Nat.le_succ_of_le HS7.out) (w7.heap.size + 1) HZ8.out ?_
              intro gu cu w9 hown9 hgrow hat hlt
              have HG9 : Hid (B ≤ gu) := Lib.hid (hown9.lt gu rfl).1
              have HO9 : Hid (w9.ownsRow B 57 4 (.slice (some ⟨gu, 0, none⟩) (k + 1) cu) (k + 1) (rcells (l ++ [x]))) := Lib.hid (by rw [rcells_end]; exact hown9)
              have HE9 : Hid (Has w9 ge 60 [.int .u64 a, .int .u64 f, v]) := Lib.hid ((HE7.out.grow _).but hgrow (fun e => HOE.out e.symm))
              have HX9 : Hid (Has w9 gx 60 [.int .u64 0, .int .u64 0, .slice none 0 0]) := Lib.hid ((HX7.out.grow _).but hgrow (fun e => HOX.out e.symm))
              have R9 : Hid (Rd w9 g s1' b1') := Lib.hid ((R7.out.grow _).but hgrow (fun e => HOG.out e.symm))
              have HB9 : Hid (Below w.heap.size w w9) := Lib.hid ((HB7.out.alloc HB7.out.size _).grown hgrow (by rw [HZ8.out]; exact Nat.le_succ_of_le HB7.out.size) (fun _ e => Nat.le_trans HBB.out.2.2.2 (HV.out.own.lt _ e).1))
              have HS9 : Hid (B ≤ w9.heap.size) := Lib.hid (Nat.le_trans (by rw [HZ8.out]; exact Nat.le_succ_of_le HS7.out) hgrow.size)
              have bd9 : w9.cell? ⟨ge, 1, none⟩ = some (.int .u64 f) := HE9.out.cell 1
              have c9 : w9.cell? ⟨ge, 2, none⟩ = some v := HE9.out.cell 2
              have f9 : w9.frozen? ⟨ge, 2, none⟩ = false := HE9.out.free 2
              have bd10 : (w9.setCell ⟨ge, 2, none⟩ (.slice (some ⟨gu, 0, none⟩) (k + 1) cu)).cell? ⟨ge, 1, none⟩ = some (.int .u64 f) := (HE9.out.put 2 (.slice (some ⟨gu, 0, none⟩) (k + 1) cu)).cell 1
              have HIN : Hid (Inv w (w9.setCell ⟨ge, 2, none⟩ (.slice (some ⟨gu, 0, none⟩) (k + 1) cu)) B g ge gx a f n (opsS f n 0 s3 b3) (k + 1) (l ++ [x]) s1' b1' (.slice (some ⟨gu, 0, none⟩) (k + 1) cu)) := Lib.hid
                ⟨R9.out.far (fun e => HGE.out.2.2.1 e) _, HL1.out, HX9.out.far (fun e => HGE.out.2.1 e) _, HE9.out.put 2 _, HO9.out.kept (only_write w9 ge 2 _) (.inr (fun e => by have e2 : gu = ge := (by injection e); have h1 := HBB.out.1; have h2 := HG9.out; rw [e2] at h2; exact absurd h1 (Nat.not_lt.2 h2))), by rw [List.length_append, HV.out.many]; rfl, fun y hy => by
                  rcases List.mem_append.1 hy with h | h
                  · exact HV.out.bnd y h
                  · rw [List.mem_singleton.1 h]; exact HXB.out, HJ.out, HB9.out.setCell (Nat.le_trans HGE.out.1 (Nat.le_refl _)) _, by simpa [World.setCell] using HS9.out⟩
              clear hown9 hgrow hat hlt HO8 HN8 HZ8 hk6
              refine hK.out _ _ bd9 (fun _ => ?_)
              clear hK K
              simp only [Act.put, List.setIfInBounds_toArray, List.set_cons_zero, List.set_cons_succ]
              refine wpAnyH_ready (rs := [10]) (by kernel_rfl) (by simp) (AllReadyH.cons (lit rfl) (fun K hK => ?_) AllReadyH.nil)
              go_simp
              refine hK.out _ _ bd9 (fun _ => ?_)
              clear hK K
              refine wpAnyH_ready (rs := [11]) (by kernel_rfl) (by simp) (AllReadyH.cons (lit rfl) (fun K hK => ?_) AllReadyH.nil)
              go_simp
              refine hK.out _ _ bd10 (fun _ => ?_)
              clear hK K
              refine wpAnyH_done (by kernel_rfl) ?_ _
              go_wp2
              go_roundw
              case rel => exact ⟨k + 1, l ++ [x], s1', b1', _, hk1, by first | rfl | go_num, HIN⟩
              case measure => simp; omega
            · unfold ocells
              go_simp
              refine hK.out _ _ bd8 (fun _ => ?_)
              clear hK K
              refine wpAnyH_ready (rs := [1]) (by kernel_rfl) (by simp) (AllReadyH.cons (lit rfl) (fun K hK => ?_) AllReadyH.nil)
              go_simp
              refine hK.out _ _ bd8 (fun _ => ?_)
              clear hK K
              have HO8 := Lib.hid (HO7.out.alloc (.cells #[.string ⟨x.key.toArray⟩, .int .u64 x.lsn, .bool x.del, .string ⟨x.val.toArray⟩] 57))
              have HN8 : Hid (∀ j u, (ocells x)[j]? = some u → (w7.alloc (.cells #[.string ⟨x.key.toArray⟩, .int .u64 x.lsn, .bool x.del, .string ⟨x.val.toArray⟩] 57)).cell? ((⟨w7.heap.size, 0, none⟩ : Addr).add j) = some u) := Lib.hid (fun j u hj => by
                rw [add_plain, Nat.zero_add]
                exact ((show Has (w7.alloc (.cells #[.string ⟨x.key.toArray⟩, .int .u64 x.lsn, .bool x.del, .string ⟨x.val.toArray⟩] 57)) w7.heap.size 57 (ocells x) from heap_alloc_new _ _).cell j).trans hj)
              have HZ8 : Hid ((w7.alloc (.cells #[.string ⟨x.key.toArray⟩, .int .u64 x.lsn, .bool x.del, .string ⟨x.val.toArray⟩] 57)).heap.size = w7.heap.size + 1) := Lib.hid (World.size_alloc _ _)
              have hk6 : k + 1 ≤ 6 := by clear c8 c7 bd8 bd7 bd c2 e3 e4 dd; omega
              refine wpAnyH_ready (rs := [9]) (by kernel_rfl) (by simp) (AllReadyH.cons (lit rfl) (fun K hK => ?_) AllReadyH.nil)
              refine step_append_lies _ rfl (.tmp 24) (.tmp 31) 58 rfl B 57 i0 _ 4 48 Try.underlying58 HI.out HZ0.out HS0.out HB0.out (by simp [Value.cells]) (by decide) v k (rcells l) rfl HO8.out ⟨w7.heap.size, 0, none⟩ 1 1 (ocells x) rfl rfl HN8.out HONE.out (by decide) (by clear c8 c7 bd8 bd7 bd c2 e3 e4 dd; unfold maxLen; omega) (by clear c8 c7 bd8 bd7 bd c2 e3 e4 dd; omega) (by rw [HZ8.out]; exact Nat.le_succ_of_le HS7.out) (w7.heap.size + 1) HZ8.out ?_
              intro gu cu w9 hown9 hgrow hat hlt
              have HG9 : Hid (B ≤ gu) := Lib.hid (hown9.lt gu rfl).1
              have HO9 : Hid (w9.ownsRow B 57 4 (.slice (some ⟨gu, 0, none⟩) (k + 1) cu) (k + 1) (rcells (l ++ [x]))) := Lib.hid (by rw [rcells_end]; exact hown9)
              have HE9 : Hid (Has w9 ge 60 [.int .u64 a, .int .u64 f, v]) := Lib.hid ((HE7.out.grow _).but hgrow (fun e => HOE.out e.symm))
              have HX9 : Hid (Has w9 gx 60 [.int .u64 0, .int .u64 0, .slice none 0 0]) := Lib.hid ((HX7.out.grow _).but hgrow (fun e => HOX.out e.symm))
              have R9 : Hid (Rd w9 g s1' b1') := Lib.hid ((R7.out.grow _).but hgrow (fun e => HOG.out e.symm))
              have HB9 : Hid (Below w.heap.size w w9) := Lib.hid ((HB7.out.alloc HB7.out.size _).grown hgrow (by rw [HZ8.out]; exact Nat.le_succ_of_le HB7.out.size) (fun _ e => Nat.le_trans HBB.out.2.2.2 (HV.out.own.lt _ e).1))
              have HS9 : Hid (B ≤ w9.heap.size) := Lib.hid (Nat.le_trans (by rw [HZ8.out]; exact Nat.le_succ_of_le HS7.out) hgrow.size)
              have bd9 : w9.cell? ⟨ge, 1, none⟩ = some (.int .u64 f) := HE9.out.cell 1
              have c9 : w9.cell? ⟨ge, 2, none⟩ = some v := HE9.out.cell 2
              have f9 : w9.frozen? ⟨ge, 2, none⟩ = false := HE9.out.free 2
              have bd10 : (w9.setCell ⟨ge, 2, none⟩ (.slice (some ⟨gu, 0, none⟩) (k + 1) cu)).cell? ⟨ge, 1, none⟩ = some (.int .u64 f) := (HE9.out.put 2 (.slice (some ⟨gu, 0, none⟩) (k + 1) cu)).cell 1
              have HIN : Hid (Inv w (w9.setCell ⟨ge, 2, none⟩ (.slice (some ⟨gu, 0, none⟩) (k + 1) cu)) B g ge gx a f n (opsS f n 0 s3 b3) (k + 1) (l ++ [x]) s1' b1' (.slice (some ⟨gu, 0, none⟩) (k + 1) cu)) := Lib.hid
                ⟨R9.out.far (fun e => HGE.out.2.2.1 e) _, HL1.out, HX9.out.far (fun e => HGE.out.2.1 e) _, HE9.out.put 2 _, HO9.out.kept (only_write w9 ge 2 _) (.inr (fun e => by have e2 : gu = ge := (by injection e); have h1 := HBB.out.1; have h2 := HG9.out; rw [e2] at h2; exact absurd h1 (Nat.not_lt.2 h2))), by rw [List.length_append, HV.out.many]; rfl, fun y hy => by
                  rcases List.mem_append.1 hy with h | h
                  · exact HV.out.bnd y h
                  · rw [List.mem_singleton.1 h]; exact HXB.out, HJ.out, HB9.out.setCell (Nat.le_trans HGE.out.1 (Nat.le_refl _)) _, by simpa [World.setCell] using HS9.out⟩
              clear hown9 hgrow hat hlt HO8 HN8 HZ8 hk6
              refine hK.out _ _ bd9 (fun _ => ?_)
              clear hK K
              simp only [Act.put, List.setIfInBounds_toArray, List.set_cons_zero, List.set_cons_succ]
              refine wpAnyH_ready (rs := [10]) (by kernel_rfl) (by simp) (AllReadyH.cons (lit rfl) (fun K hK => ?_) AllReadyH.nil)
              go_simp
              refine hK.out _ _ bd9 (fun _ => ?_)
              clear hK K
              refine wpAnyH_ready (rs := [11]) (by kernel_rfl) (by simp) (AllReadyH.cons (lit rfl) (fun K hK => ?_) AllReadyH.nil)
              go_simp
              refine hK.out _ _ bd10 (fun _ => ?_)
              clear hK K
              refine wpAnyH_done (by kernel_rfl) ?_ _
              go_wp2
              go_roundw
              case rel => exact ⟨k + 1, l ++ [x], s1', b1', _, hk1, by first | rfl | go_num, HIN⟩
              case measure => simp; omega
      · obtain rfl : k = n := by omega
        have hR : opsS f k 0 s3 b3 = some (l, s, b) := by
          have := HV.out.join
          rw [Nat.sub_self] at this
          rw [← this]
          simp [opsS, joinO]
        have HEN2 : Hid (entS t = if (!b && s.isEmpty) = true ∧ checkE ⟨a, f, l⟩ = 0 then some ⟨a, f, l⟩ else none) := Lib.hid (by rw [HEN.out, hR]; rfl)
        have c0 : wr.cell? ⟨ge, 0, none⟩ = some (.int .u64 a) := HV.out.e.cell 0
        have c1 : wr.cell? ⟨ge, 1, none⟩ = some (.int .u64 f) := HV.out.e.cell 1
        have c2 : wr.cell? ⟨ge, 2, none⟩ = some v := HV.out.e.cell 2
        have HEND := Lib.hid (end_walk s b g wr HV.out.rd)
        have hown : wr.ownsRow B 57 4 v l.length (rcells l) := by rw [HV.out.many]; exact HV.out.own
        have hew : Ew wr ⟨a, f, l⟩ v := ⟨lst_of_owns hown HV.out.bnd, u1, u2⟩
        obtain ⟨A, cap, hv, _⟩ := hew.1.form
        have HCK := Lib.hid (check_walk wr ⟨a, f, l⟩ v hew)
        have HOW := Lib.hid hown
        have HU1 := Lib.hid u1
        have HU2 := Lib.hid u2
        simp only at hv
        subst hv
        clear hR hown hew HEN hk hk1 hn6 dd u1 u2
        unfold ecells at HCK
        cases hz : (!b && s.isEmpty) with
        | false =>
          rw [hz] at HEND
          have HON : Hid (entS t = none) := Lib.hid (by rw [HEN2.out, if_neg (by rw [hz]; simp)])
          clear hz
          go_wp2_with (first | (go_at_call 105; refine HEND.out.mono ?_; rintro e w7 ⟨rfl, rfl⟩) | (go_at_call 122; refine (must_no _).mono ?_; rintro e w7 ⟨⟨pv, rfl⟩, rfl⟩))
          refine ⟨rfl, ?_⟩
          unfold ReadEnd
          rw [HON.out]
          exact ⟨HV.out.below, ⟨_, rfl⟩⟩
        | true =>
          rw [hz] at HEND
          by_cases hc0 : checkE ⟨a, f, l⟩ = 0
          · have HON : Hid (entS t = some ⟨a, f, l⟩) := Lib.hid (by rw [HEN2.out, if_pos ⟨hz, hc0⟩])
            rw [hc0] at HCK
            clear hz hc0
            go_wp2_with (go_at_call 105; refine HEND.out.mono ?_; rintro e w7 ⟨rfl, rfl⟩)
            refine HCK.out.mono ?_
            rintro e w8 ⟨rfl, b8⟩
            have HE8 := Lib.hid (HV.out.e.under b8 HV.out.e.lt)
            have HX8 := Lib.hid (HV.out.x.under b8 HV.out.x.lt)
            have HO8 := Lib.hid (HOW.out.kept (only_of_under b8 none) (by
              rcases hq : (Value.slice A l.length cap).ownBlock with _ | q
              · exact .inl rfl
              · exact .inr (by simp)))
            have HB8 := Lib.hid (HV.out.below.trans (b8.mono HV.out.below.size))
            have e0 : w8.cell? ⟨ge, 0, none⟩ = some (.int .u64 a) := HE8.out.cell 0
            have e1 : w8.cell? ⟨ge, 1, none⟩ = some (.int .u64 f) := HE8.out.cell 1
            have e2 : w8.cell? ⟨ge, 2, none⟩ = some (.slice A l.length cap) := HE8.out.cell 2
            have x0 : w8.cell? ⟨gx, 0, none⟩ = some (.int .u64 0) := HX8.out.cell 0
            have x1 : w8.cell? ⟨gx, 1, none⟩ = some (.int .u64 0) := HX8.out.cell 1
            have x2 : w8.cell? ⟨gx, 2, none⟩ = some (.slice none 0 0) := HX8.out.cell 2
            have f0 := HX8.out.free 0
            have f1 := HX8.out.free 1
            have f2 := HX8.out.free 2
            clear b8 c0 c1 c2
            go_wp2_with (go_at_call 122; refine (must_yes _).mono ?_; rintro e w9 ⟨rfl, rfl⟩)
            have HX9 := Lib.hid (((HX8.out.put 0 (.int .u64 a)).put 1 (.int .u64 f)).put 2 (.slice A l.length cap))
            refine bodyPost_ret (results_cell rfl _ _ gx 0 (ecells ⟨a, f, l⟩ (.slice A l.length cap)) _ rfl (has_range HX9.out) Try.underlying60 rfl (by kernel_rfl)) rfl ?_
            unfold ReadEnd
            rw [HON.out]
            have hgxw : w.heap.size ≤ gx := by rw [HGXW.out]; exact Nat.le_refl _
            refine ⟨((HB8.out.setCell hgxw _).setCell hgxw _).setCell hgxw _, _, rfl, ⟨lst_of_owns (HO8.out.kept (only_step (only_step (only_write _ gx 0 _) (only_write _ gx 1 _)) (only_write _ gx 2 _)) (.inr (fun e => absurd (HOW.out.lt gx e).1 (Nat.not_le.2 HBB.out.2.2.1)))) HV.out.bnd, HU1.out, HU2.out⟩, fun q e => Nat.le_trans HBB.out.2.2.2 (HOW.out.lt q e).1⟩
          · have HON : Hid (entS t = none) := Lib.hid (by rw [HEN2.out, if_neg (fun h => hc0 h.2)])
            obtain ⟨c, hcc⟩ : ∃ c, c = checkE ⟨a, f, l⟩ := ⟨_, rfl⟩
            rw [← hcc] at HCK hc0
            have hcb : (c == 0) = false := beq_eq_false_iff_ne.2 hc0
            clear hz hcc hc0
            go_wp2_with (go_at_call 105; refine HEND.out.mono ?_; rintro e w7 ⟨rfl, rfl⟩)
            refine HCK.out.mono ?_
            rintro e w8 ⟨rfl, b8⟩
            have HB8 := Lib.hid (HV.out.below.trans (b8.mono HV.out.below.size))
            clear b8
            go_wp2_with (go_at_call 122; refine (must_no _).mono ?_; rintro e w9 ⟨⟨pv, rfl⟩, rfl⟩)
            refine ⟨rfl, ?_⟩
            unfold ReadEnd
            rw [HON.out]
            exact ⟨HB8.out, ⟨_, rfl⟩⟩
end LTk
end Go.Proofs.Ytkhdidhpcdlmcaa
