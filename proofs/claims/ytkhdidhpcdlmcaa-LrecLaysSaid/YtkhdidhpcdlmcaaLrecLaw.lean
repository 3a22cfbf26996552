/- What the statements of layer 6 share: one, same, works. -/
import Derived.Test.YtkhdidhpcdlmcaaLrecLay
import Derived.Test.YtkhdidhpcdlmcaaLrecOpen
import Derived.BigQuiet
import Derived.Deep.QuietTactic
namespace Go.Proofs.Ytkhdidhpcdlmcaa
set_option maxRecDepth 100000
open Go.RowKit Go.Lib MM MS MF DE WM WP WR CM CE FL LM LQ LC LA LL RS LR LTk LD
namespace LW
def one1 : En := ⟨1, 2, [⟨[97], 2, false, [98]⟩]⟩
theorem chk_one : checkE one1 = 0 := by decide +kernel
theorem enc_one : encL one1 = 12 :: sealB [1, 2, 1, 1, 97, 0, 1, 98] := by kernel_rfl
theorem enc_one' : encB one1 = 12 :: sealB [1, 2, 1, 1, 97, 0, 1, 98] := by kernel_rfl
/-- No beginning of an entry's bytes is one's. -/
theorem dec_cut {e : En} (h : checkE e = 0) {k : Nat} (hk : k < (encB e).length) : decS ((encB e).take k) = none := by
  rcases hd : decS ((encB e).take k) with _ | ⟨e', n⟩
  · rfl
  · exfalso
    obtain ⟨c1, c2, r, c3⟩ := enc_dec hd
    have h1 := dec_enc h []
    rw [List.append_nil] at h1
    have h2 : encB e = encB e' ++ (r ++ (encB e).drop k) := by rw [← List.append_assoc, ← c3, List.take_append_drop]
    have h3 := dec_enc c1 (r ++ (encB e).drop k)
    rw [← h2, h1] at h3
    simp only [Option.some.injEq, Prod.mk.injEq] at h3
    have h4 := congrArg List.length c3
    rw [List.length_take, List.length_append] at h4
    omega
theorem lst_has {w : World} {g : Nat} {l : List Ro} (h : Has w g 57 (rcells l)) (hl : l.length ≤ maxLen) (hb : ∀ x ∈ l, x.key.length ≤ 9223372036854775807 ∧ x.lsn < 18446744073709551616 ∧ x.val.length ≤ 9223372036854775807) : Lst w 4 QO (.slice (some ⟨g, 0, none⟩) l.length l.length) l :=
  ⟨_, l.length, rfl, Nat.le_refl _, hl, fun _ => ⟨g, 0, rfl, h.lt, fun i x hi => by
    have hx := hb x (List.mem_of_getElem? hi)
    exact ⟨ocells x, rfl, ⟨hx.1, hx.2.1, hx.2.2, rfl⟩, fun j hj => by rw [Nat.zero_add, h.cell, rcells_at l i j x hj hi]⟩⟩⟩
theorem one_walk (w : World) : Calls Try.prog 91 #[] w fun e w' => ∃ v, e = .returned (.agg (ecells one1 v).toArray) ∧ Ew w' one1 v ∧ Below w.heap.size w w' := by
  go_enter Try.func91, Try.ntmps91
  go_wp2
  have q1 : Has (w.alloc (.cells #[.int .u64 1, .int .u64 2, .slice (some ⟨w.heap.size + 1, 0, none⟩) 1 1] 60)) w.heap.size 60 (ecells one1 (.slice (some ⟨w.heap.size + 1, 0, none⟩) 1 1)) := heap_alloc_new _ _
  have q2 : Has ((w.alloc (.cells #[.int .u64 1, .int .u64 2, .slice (some ⟨w.heap.size + 1, 0, none⟩) 1 1] 60)).alloc (.cells #[.string ⟨#[97]⟩, .int .u64 2, .bool false, .string ⟨#[98]⟩] 57)) (w.heap.size + 1) 57 (rcells one1.ops) := by
    have := heap_alloc_new (w.alloc (.cells #[.int .u64 1, .int .u64 2, .slice (some ⟨w.heap.size + 1, 0, none⟩) 1 1] 60)) (.cells #[.string ⟨#[97]⟩, .int .u64 2, .bool false, .string ⟨#[98]⟩] 57)
    rw [World.size_alloc] at this
    exact this
  refine bodyPost_ret (results_cell rfl _ _ w.heap.size 0 (ecells one1 (.slice (some ⟨w.heap.size + 1, 0, none⟩) 1 1)) _ rfl (has_range (q1.grow _)) Try.underlying60 rfl (by kernel_rfl)) rfl ?_
  refine ⟨_, rfl, ⟨lst_has q2 (by decide) (by decide), by decide, by decide⟩, ((Below.refl _ w).alloc (Nat.le_refl _) _).alloc (by simp [World.size_alloc]) _⟩
set_option maxHeartbeats 2000000 in
theorem same_walk (w : World) (e : En) (va vb : Value) (ha : Ew w e va) (hb : Ew w e vb) : Calls Try.prog 93 #[.agg (ecells e va).toArray, .agg (ecells e vb).toArray] w fun r w' => r = .returned (.bool true) ∧ Below w.heap.size w w' := by
  obtain ⟨Aa, capa, rfl, hla⟩ := ha.1.form
  obtain ⟨Ab, capb, rfl, hlb⟩ := hb.1.form
  have HA := Lib.hid ha
  have HB := Lib.hid hb
  have b2 : Below w.heap.size w ((w.alloc (.cells (ecells e (.slice Aa e.ops.length capa)).toArray 60)).alloc (.cells (ecells e (.slice Ab e.ops.length capb)).toArray 60)) := ((Below.refl _ w).alloc (Nat.le_refl _) _).alloc (by simp [World.size_alloc]) _
  have q1 : Has ((w.alloc (.cells (ecells e (.slice Aa e.ops.length capa)).toArray 60)).alloc (.cells (ecells e (.slice Ab e.ops.length capb)).toArray 60)) w.heap.size 60 (ecells e (.slice Aa e.ops.length capa)) := (show Has (w.alloc (.cells (ecells e (.slice Aa e.ops.length capa)).toArray 60)) w.heap.size 60 (ecells e (.slice Aa e.ops.length capa)) from heap_alloc_new _ _).grow _
  have q2 : Has ((w.alloc (.cells (ecells e (.slice Aa e.ops.length capa)).toArray 60)).alloc (.cells (ecells e (.slice Ab e.ops.length capb)).toArray 60)) (w.heap.size + 1) 60 (ecells e (.slice Ab e.ops.length capb)) := by
    have := heap_alloc_new (w.alloc (.cells (ecells e (.slice Aa e.ops.length capa)).toArray 60)) (.cells (ecells e (.slice Ab e.ops.length capb)).toArray 60)
    rw [World.size_alloc] at this
    exact this
  have B2 := Lib.hid b2
  have Q1 := Lib.hid q1
  have Q2 := Lib.hid q2
  unfold ecells at B2 Q1 Q2 ⊢
  clear ha hb b2 q1 q2
  go_enter Try.func93, Try.ntmps93
  go_wp2_with fail
  generalize hw1 : (w.alloc (.cells #[.int .u64 e.ts, .int .u64 e.fst, .slice Aa e.ops.length capa] 60)).alloc (.cells #[.int .u64 e.ts, .int .u64 e.fst, .slice Ab e.ops.length capb] 60) = w1 at *
  obtain ⟨ga, ega⟩ : ∃ ga, ga = w.heap.size := ⟨_, rfl⟩
  obtain ⟨gb, egb⟩ : ∃ gb, gb = w.heap.size + 1 := ⟨_, rfl⟩
  rw [← egb, ← ega]
  have P1 : Hid (Has w1 ga 60 [.int .u64 e.ts, .int .u64 e.fst, .slice Aa e.ops.length capa]) := Lib.hid (by rw [ega]; exact Q1.out)
  have P2 : Hid (Has w1 gb 60 [.int .u64 e.ts, .int .u64 e.fst, .slice Ab e.ops.length capb]) := Lib.hid (by rw [egb]; exact Q2.out)
  have P3 : Hid (Below w.heap.size w w1) := Lib.hid B2.out
  clear Q1 Q2 B2 hw1 ega egb
  go_loopw [5] (fun i wr => ∃ k : Nat, k ≤ e.ops.length ∧ i = .int .i64 k ∧ Hid (Has wr ga 60 [.int .u64 e.ts, .int .u64 e.fst, .slice Aa e.ops.length capa]) ∧ Hid (Has wr gb 60 [.int .u64 e.ts, .int .u64 e.fst, .slice Ab e.ops.length capb]) ∧ Hid (Below w.heap.size w wr)) (fun i _ => e.ops.length - (RowKit.intOf i).toNat)
  case atStart => exact ⟨0, by omega, rfl, P1, P2, P3⟩
  case round =>
    obtain ⟨k, hk, rfl, R1, R2, R3⟩ := hrel
    clear P1 P2 P3
    have p1 : wr.cell? ⟨ga, 2, none⟩ = some (.slice Aa e.ops.length capa) := R1.out.cell 2
    have p2 : wr.cell? ⟨gb, 2, none⟩ = some (.slice Ab e.ops.length capb) := R2.out.cell 2
    rcases Nat.lt_or_ge k e.ops.length with hk1 | hk1
    · obtain ⟨b, off, x, rfl, hd, hx, hx1, hx2, hx3, c0, c1, c2, c3⟩ := ops_get HA.out.1 R3.out k hk1
      obtain ⟨b', off', x', rfl, hd', hx', _, _, _, d0, d1, d2, d3⟩ := ops_get HB.out.1 R3.out k hk1
      obtain rfl : x' = x := hx'.symm.trans hx
      have e1 := next64 hk1 hla
      have i1 : (0 : Int) ≤ (k : Int) := by omega
      have i2 : (k : Int) < (e.ops.length : Int) := by omega
      clear hd hd' hx hx' hx1 hx2 hx3
      go_wp2_with fail
      go_quiet (fail)
      go_wp2
      go_roundw
      case rel => exact ⟨k + 1, by omega, by go_num, Lib.hid (R1.out.draws _), Lib.hid (R2.out.draws _), Lib.hid ⟨R3.out.os, R3.out.tape, R3.out.output, R3.out.size, R3.out.block⟩⟩
      case measure => simp [RowKit.intOf]; omega
    · obtain rfl : k = e.ops.length := by omega
      go_wp2
      go_ret
      exact ⟨rfl, R3.out⟩
def Q1 : List UInt8 := sealB [1, 2, 1, 1, 97, 0, 1, 98]
theorem q1_len : Q1.length = 12 := by kernel_rfl
def mk (k : List UInt8) (d : Bool) (v : List UInt8) : Ro := ⟨k, 0, d, v⟩
theorem m1 : mayO (mk [97] false []) = 0 := by decide
theorem m2 : mayO (mk [] false []) = 2 := by decide
theorem m3 : mayO (mk [49, 50, 51, 52, 53, 54, 55, 56, 57, 48, 49, 50, 51, 52, 53, 54, 55] false []) = 3 := by decide
theorem m4 : mayO (mk [97] true [98]) = 2 := by decide
set_option maxHeartbeats 8000000 in
theorem works_walk (w : World) : Calls Try.prog 35 #[] w fun r w' => r = .returned (.bool true) ∧ Below w.heap.size w w' := by
  obtain ⟨Q, hQ⟩ : ∃ Q, Q = Q1 := ⟨_, rfl⟩
  obtain ⟨E1, hE1⟩ : ∃ E1, E1 = 12 :: Q := ⟨_, rfl⟩
  obtain ⟨E3, hE3⟩ : ∃ E3, E3 = E1 ++ [120, 121, 122] := ⟨_, rfl⟩
  obtain ⟨E2, hE2⟩ : ∃ E2, E2 = E1.take 12 := ⟨_, rfl⟩
  have hq : Q.length = 12 := by rw [hQ]; exact q1_len
  have hl : E1.length = 13 := by rw [hE1, List.length_cons, hq]
  have he1 : encL one1 = E1 := by rw [hE1, hQ]; exact enc_one
  have he2 : encB one1 = E1 := by rw [hE1, hQ]; exact enc_one'
  have hd1 : decS E3 = some (one1, 13) := by
    have := dec_enc chk_one [120, 121, 122]
    rw [he2, hl, ← hE3] at this
    exact this
  have hd2 : decS E2 = none := by
    have := dec_cut chk_one (k := 12) (by rw [he2, hl]; decide)
    rw [he2, ← hE2] at this
    exact this
  have H1 := Lib.hid (one_walk w)
  have H2 := Lib.hid (fun (w1 : World) (v : Value) (h : Ew w1 one1 v) => encode_walk w1 one1 v h)
  rw [he1, chk_one] at H2
  have H3 := Lib.hid (fun w1 => decode_walk w1 E3 (by rw [hE3, List.length_append, hl]; decide))
  rw [hd1] at H3
  have H4 := Lib.hid (fun w1 => decode_walk w1 E2 (by rw [hE2, List.length_take, hl]; decide))
  rw [hd2] at H4
  have H5 := Lib.hid (fun w1 => seal_walk [1, 2, 1, 1, 97, 0, 1, 98] (by decide) w1)
  rw [show sealB [1, 2, 1, 1, 97, 0, 1, 98] = Q from hQ.symm] at H5
  have M1 : Hid (∀ w1 : World, Calls Try.prog 31 #[.agg #[.string ⟨#[97]⟩, .int .u64 0, .bool false, .string ⟨#[]⟩]] w1 fun e w' => e = .returned (.int .i64 0) ∧ Below w1.heap.size w1 w') := Lib.hid (fun w1 => by
    have := may_walk w1 (mk [97] false [])
    rw [m1] at this
    exact this)
  have M2 : Hid (∀ w1 : World, Calls Try.prog 31 #[.agg #[.string ⟨#[]⟩, .int .u64 0, .bool false, .string ⟨#[]⟩]] w1 fun e w' => e = .returned (.int .i64 2) ∧ Below w1.heap.size w1 w') := Lib.hid (fun w1 => by
    have := may_walk w1 (mk [] false [])
    rw [m2] at this
    exact this)
  have M3 : Hid (∀ w1 : World, Calls Try.prog 31 #[.agg #[.string ⟨#[49, 50, 51, 52, 53, 54, 55, 56, 57, 48, 49, 50, 51, 52, 53, 54, 55]⟩, .int .u64 0, .bool false, .string ⟨#[]⟩]] w1 fun e w' => e = .returned (.int .i64 3) ∧ Below w1.heap.size w1 w') := Lib.hid (fun w1 => by
    have := may_walk w1 (mk [49, 50, 51, 52, 53, 54, 55, 56, 57, 48, 49, 50, 51, 52, 53, 54, 55] false [])
    rw [m3] at this
    exact this)
  have M4 : Hid (∀ w1 : World, Calls Try.prog 31 #[.agg #[.string ⟨#[97]⟩, .int .u64 0, .bool true, .string ⟨#[98]⟩]] w1 fun e w' => e = .returned (.int .i64 2) ∧ Below w1.heap.size w1 w') := Lib.hid (fun w1 => by
    have := may_walk w1 (mk [97] true [98])
    rw [m4] at this
    exact this)
  have ha1 : ∀ W : World, Sem.run Try.prog (Op.stringOp BinOp.add ⟨E1.toArray⟩ ⟨#[120, 121, 122]⟩) W = Result.ok (.string ⟨E3.toArray⟩) W := fun W => by
    have := run_string_add_sum (P := Try.prog) (w := W) ⟨E1.toArray⟩ ⟨#[120, 121, 122]⟩ (by show E1.length + 3 ≤ _; omega)
    rw [this, hE3]
    rfl
  have ha2 : ∀ W : World, Sem.run Try.prog (Op.stringOp BinOp.add ⟨#[12]⟩ ⟨Q.toArray⟩) W = Result.ok (.string ⟨E1.toArray⟩) W := fun W => by
    have := run_string_add_sum (P := Try.prog) (w := W) ⟨#[12]⟩ ⟨Q.toArray⟩ (by show 1 + Q.length ≤ _; omega)
    rw [this, hE1]
    rw [show (⟨#[12]⟩ : ByteArray) = ⟨[12].toArray⟩ from rfl, ByteArray.mk_append_mk]
    simp
  have hsz : (⟨E1.toArray⟩ : ByteArray).size = 13 := hl
  have hex : (⟨E1.toArray⟩ : ByteArray).extract 0 12 = ⟨E2.toArray⟩ := by rw [hE2, ByteArray.extract_mk]; simp
  clear hQ hE1 hE3 hE2 hq he1 he2 hd1 hd2
  go_enter Try.func35, Try.ntmps35
  go_wp2_with fail
  refine H1.out.mono ?_
  rintro e w1 ⟨v1, rfl, hew1, b1⟩
  have B1 := Lib.hid b1
  have EW1 := Lib.hid hew1
  obtain ⟨A1, cap1, hv1, _⟩ := hew1.1.form
  subst hv1
  clear b1 hew1 H1
  unfold ecells
  go_wp2_with fail
  refine (H2.out w1 _ EW1.out).mono ?_
  rintro e w2 ⟨rfl, b2⟩
  have B2 := Lib.hid (B1.out.trans (b2.mono B1.out.size))
  clear b2 B1 EW1 H2
  go_wp2_with fail
  refine (H3.out w2).mono ?_
  rintro e w3 ⟨b3, v3, rfl, hew3⟩
  obtain ⟨A3, cap3, hv3, _⟩ := hew3.1.form
  subst hv3
  have HB3 := Lib.hid (B2.out.trans (b3.mono B2.out.size))
  have EW3 := Lib.hid hew3
  obtain ⟨g3, eg3⟩ : ∃ g3, g3 = w3.heap.size := ⟨_, rfl⟩
  obtain ⟨w4, hw4⟩ : ∃ w4, w4 = w3.alloc (.cells #[.int .u64 one1.ts, .int .u64 one1.fst, .slice A3 one1.ops.length cap3] 60) := ⟨_, rfl⟩
  have b4 : Below w3.heap.size w3 w4 := by rw [hw4]; exact (Below.refl _ _).alloc (Nat.le_refl _) _
  have HB4 := Lib.hid (HB3.out.trans (b4.mono HB3.out.size))
  have EW4 := Lib.hid (EW3.out.under b4)
  have HX4 : Hid (Has w4 g3 60 [.int .u64 one1.ts, .int .u64 one1.fst, .slice A3 one1.ops.length cap3]) := Lib.hid (by rw [hw4, eg3]; exact heap_alloc_new _ _)
  clear b3 b4 hew3 HB3 EW3 B2 H3
  unfold ecells
  have e13 : wrap64 ((13 : Int) - 1) = 12 := by unfold wrap64; omega
  go_wp2_with fail
  rw [show (max 12 0 : Int) = 12 from by decide, show ((12 : Int)).toNat = 12 from rfl, hex]
  try rw [← hw4]
  try rw [← eg3]
  clear hw4 eg3
  refine (H4.out w4).mono ?_
  rintro e w5 ⟨b5, rfl⟩
  have HB5 := Lib.hid (HB4.out.trans (b5.mono HB4.out.size))
  have EW5 := Lib.hid (EW4.out.under b5)
  have HX5 := Lib.hid (HX4.out.under b5 HX4.out.lt)
  obtain ⟨w6, hw6⟩ : ∃ w6, w6 = w5.alloc (.cells #[.int .u64 0, .int .u64 0, .slice none 0 0] 60) := ⟨_, rfl⟩
  have b6 : Below w5.heap.size w5 w6 := by rw [hw6]; exact (Below.refl _ _).alloc (Nat.le_refl _) _
  have HB6 := Lib.hid (HB5.out.trans (b6.mono HB5.out.size))
  have EW6 := Lib.hid (EW5.out.under b6)
  have HX6 := Lib.hid (HX5.out.under b6 HX5.out.lt)
  clear b5 b6 HB4 EW4 HX4 HB5 EW5 HX5 H4
  unfold zE
  go_wp2_with fail
  try rw [← hw6]
  clear hw6
  have bd6 : w6.drew.cell? ⟨g3, 0, none⟩ = some (.int .u64 one1.ts) ∧ w6.drew.cell? ⟨g3, 1, none⟩ = some (.int .u64 one1.fst) ∧ w6.drew.cell? ⟨g3, 2, none⟩ = some (.slice A3 one1.ops.length cap3) := ⟨HX6.out.draw.cell 0, HX6.out.draw.cell 1, HX6.out.draw.cell 2⟩
  have EW6d : Hid (Ew w6.drew one1 (.slice A3 one1.ops.length cap3)) := Lib.hid (EW6.out.under (below_drew w6))
  have HX6d : Hid (Has w6.drew g3 60 [.int .u64 one1.ts, .int .u64 one1.fst, .slice A3 one1.ops.length cap3]) := Lib.hid HX6.out.draw
  have HB6d : Hid (Below w.heap.size w w6.drew) := Lib.hid (HB6.out.trans ((below_drew w6).mono HB6.out.size))
  clear EW6 HX6 HB6
  refine wp_region_held_drew (S := fun w' => w'.cell? ⟨g3, 0, none⟩ = some (.int .u64 one1.ts) ∧ w'.cell? ⟨g3, 1, none⟩ = some (.int .u64 one1.fst) ∧ w'.cell? ⟨g3, 2, none⟩ = some (.slice A3 one1.ops.length cap3)) (by kernel_rfl) bd6 (fun hS => ?_)
  refine wpAnyH_take (i := 0) (v := (.int .i64 0)) (lit rfl) (by kernel_rfl) (by kernel_rfl) (by kernel_rfl) (fun _ _ _ h => h) (Or.inl ⟨by rfl, fun w hw => by go_simp⟩) bd6 ?_
  simp only [Act.put, List.setIfInBounds_toArray, List.set_cons_zero, List.set_cons_succ]
  refine wpAnyH_take (i := 1) (v := (.bool true)) (lit rfl) (by kernel_rfl) (by kernel_rfl) (by kernel_rfl) (fun _ _ _ h => h) (Or.inl ⟨by rfl, fun w hw => by go_simp⟩) bd6 ?_
  simp only [Act.put, List.setIfInBounds_toArray, List.set_cons_zero, List.set_cons_succ]
  refine wpAnyH_take (i := 2) (v := (.bool true)) (lit rfl) (by kernel_rfl) (by kernel_rfl) (by kernel_rfl) (fun _ _ _ h => h) (Or.inl ⟨by rfl, fun w hw => by go_simp⟩) bd6 ?_
  simp only [Act.put, List.setIfInBounds_toArray, List.set_cons_zero, List.set_cons_succ]
  refine wpAnyH_take (i := 3) (v := (.string ⟨E1.toArray⟩)) (lit rfl) (by kernel_rfl) (by kernel_rfl) (by kernel_rfl) (fun _ _ _ h => h) (Or.inl ⟨by rfl, fun w hw => by go_simp⟩) bd6 ?_
  simp only [Act.put, List.setIfInBounds_toArray, List.set_cons_zero, List.set_cons_succ]
  refine wpAnyH_ready (rs := [4]) (by kernel_rfl) (by simp) (AllReadyH.cons (lit rfl) (fun K hK => ?_) AllReadyH.nil)
  go_simp
  go_wp2_with (go_at_call 71; refine (H5.out _).mono ?_; rintro r w7 ⟨rfl, b7⟩)
  have HX7 : Hid (Has w7 g3 60 [.int .u64 one1.ts, .int .u64 one1.fst, .slice A3 one1.ops.length cap3]) := Lib.hid (HX6d.out.under b7 HX6d.out.lt)
  have EW7 := Lib.hid (EW6d.out.under b7)
  have HB7 := Lib.hid (HB6d.out.trans (b7.mono HB6d.out.size))
  have bd7 : w7.cell? ⟨g3, 0, none⟩ = some (.int .u64 one1.ts) ∧ w7.cell? ⟨g3, 1, none⟩ = some (.int .u64 one1.fst) ∧ w7.cell? ⟨g3, 2, none⟩ = some (.slice A3 one1.ops.length cap3) := ⟨HX7.out.cell 0, HX7.out.cell 1, HX7.out.cell 2⟩
  clear b7 HX6d EW6d HB6d H5
  refine hK.out _ _ bd7 (fun _ => ?_)
  clear hK K
  refine wpAnyH_take (i := 5) (v := (.string ⟨E1.toArray⟩)) (lit rfl) (by kernel_rfl) (by kernel_rfl) (by kernel_rfl) (fun _ _ _ h => h) (Or.inl ⟨by rfl, fun w hw => by go_simp⟩) bd7 ?_
  simp only [Act.put, List.setIfInBounds_toArray, List.set_cons_zero, List.set_cons_succ]
  refine wpAnyH_take (i := 6) (v := (.bool true)) (lit rfl) (by kernel_rfl) (by kernel_rfl) (by kernel_rfl) (fun _ _ _ h => h) (Or.inl ⟨by rfl, fun w hw => by go_simp⟩) bd7 ?_
  simp only [Act.put, List.setIfInBounds_toArray, List.set_cons_zero, List.set_cons_succ]
  refine wpAnyH_take (i := 7) (v := (.bool true)) (lit rfl) (by kernel_rfl) (by kernel_rfl) (by kernel_rfl) (fun _ _ _ h => h) (Or.inl ⟨by rfl, fun w hw => by go_simp⟩) bd7 ?_
  simp only [Act.put, List.setIfInBounds_toArray, List.set_cons_zero, List.set_cons_succ]
  refine wpAnyH_take (i := 8) (v := (.bool true)) (lit rfl) (by kernel_rfl) (by kernel_rfl) (by kernel_rfl) (fun _ _ _ h => h) (Or.inl ⟨by rfl, fun w hw => by go_simp⟩) bd7 ?_
  simp only [Act.put, List.setIfInBounds_toArray, List.set_cons_zero, List.set_cons_succ]
  refine wpAnyH_take (i := 9) (v := (.int .i64 0)) (lit rfl) (by kernel_rfl) (by kernel_rfl) (by kernel_rfl) (fun _ _ _ h => h) (Or.inl ⟨by rfl, fun w hw => by go_simp⟩) bd7 ?_
  simp only [Act.put, List.setIfInBounds_toArray, List.set_cons_zero, List.set_cons_succ]
  refine wpAnyH_take (i := 10) (v := (.bool true)) (lit rfl) (by kernel_rfl) (by kernel_rfl) (by kernel_rfl) (fun _ _ _ h => h) (Or.inl ⟨by rfl, fun w hw => by go_simp⟩) bd7 ?_
  simp only [Act.put, List.setIfInBounds_toArray, List.set_cons_zero, List.set_cons_succ]
  refine wpAnyH_take (i := 11) (v := (.bool true)) (lit rfl) (by kernel_rfl) (by kernel_rfl) (by kernel_rfl) (fun _ _ _ h => h) (Or.inl ⟨by rfl, fun w hw => by go_simp⟩) bd7 ?_
  simp only [Act.put, List.setIfInBounds_toArray, List.set_cons_zero, List.set_cons_succ]
  refine wpAnyH_take (i := 12) (v := (.bool true)) (lit rfl) (by kernel_rfl) (by kernel_rfl) (by kernel_rfl) (fun _ _ _ h => h) (Or.inl ⟨by rfl, fun w hw => by go_simp⟩) bd7 ?_
  simp only [Act.put, List.setIfInBounds_toArray, List.set_cons_zero, List.set_cons_succ]
  refine wpAnyH_take (i := 13) (v := (.int .i64 13)) (lit rfl) (by kernel_rfl) (by kernel_rfl) (by kernel_rfl) (fun _ _ _ h => h) (Or.inl ⟨by rfl, fun w hw => by go_simp⟩) bd7 ?_
  simp only [Act.put, List.setIfInBounds_toArray, List.set_cons_zero, List.set_cons_succ]
  refine wpAnyH_take (i := 14) (v := (.string ⟨E1.toArray⟩)) (lit rfl) (by kernel_rfl) (by kernel_rfl) (by kernel_rfl) (fun _ _ _ h => h) (Or.inl ⟨by rfl, fun w hw => by go_simp⟩) bd7 ?_
  simp only [Act.put, List.setIfInBounds_toArray, List.set_cons_zero, List.set_cons_succ]
  refine wpAnyH_take (i := 15) (v := (.int .i64 13)) (lit rfl) (by kernel_rfl) (by kernel_rfl) (by kernel_rfl) (fun _ _ _ h => h) (Or.inl ⟨by rfl, fun w hw => by go_simp⟩) bd7 ?_
  simp only [Act.put, List.setIfInBounds_toArray, List.set_cons_zero, List.set_cons_succ]
  refine wpAnyH_take (i := 16) (v := (.bool true)) (lit rfl) (by kernel_rfl) (by kernel_rfl) (by kernel_rfl) (fun _ _ _ h => h) (Or.inl ⟨by rfl, fun w hw => by go_simp⟩) bd7 ?_
  simp only [Act.put, List.setIfInBounds_toArray, List.set_cons_zero, List.set_cons_succ]
  refine wpAnyH_take (i := 17) (v := (.bool true)) (lit rfl) (by kernel_rfl) (by kernel_rfl) (by kernel_rfl) (fun _ _ _ h => h) (Or.inl ⟨by rfl, fun w hw => by go_simp⟩) bd7 ?_
  simp only [Act.put, List.setIfInBounds_toArray, List.set_cons_zero, List.set_cons_succ]
  refine wpAnyH_take (i := 18) (v := (.bool true)) (lit rfl) (by kernel_rfl) (by kernel_rfl) (by kernel_rfl) (fun _ _ _ h => h) (Or.inl ⟨by rfl, fun w hw => by go_simp⟩) bd7 ?_
  simp only [Act.put, List.setIfInBounds_toArray, List.set_cons_zero, List.set_cons_succ]
  refine wpAnyH_take (i := 19) (v := (.agg #[.int .u64 one1.ts, .int .u64 one1.fst, .slice A3 one1.ops.length cap3])) (lit rfl) (by kernel_rfl) (by kernel_rfl) (by kernel_rfl) (fun _ _ _ h => h) (Or.inl ⟨by rfl, fun w hw => by obtain ⟨k0, k1, k2⟩ := hw; go_simp⟩) bd7 ?_
  simp only [Act.put, List.setIfInBounds_toArray, List.set_cons_zero, List.set_cons_succ]
  have H6 := Lib.hid (one_walk w7)
  refine wpAnyH_ready (rs := [20]) (by kernel_rfl) (by simp) (AllReadyH.cons (lit rfl) (fun K hK => ?_) AllReadyH.nil)
  go_simp
  go_wp2_with (go_at_call 91; refine H6.out.mono ?_; rintro r w8 ⟨v8, rfl, hew8, b8⟩)
  have HX8 : Hid (Has w8 g3 60 [.int .u64 one1.ts, .int .u64 one1.fst, .slice A3 one1.ops.length cap3]) := Lib.hid (HX7.out.under b8 HX7.out.lt)
  have EW8 := Lib.hid (EW7.out.under b8)
  have HB8 := Lib.hid (HB7.out.trans (b8.mono HB7.out.size))
  have bd8 : w8.cell? ⟨g3, 0, none⟩ = some (.int .u64 one1.ts) ∧ w8.cell? ⟨g3, 1, none⟩ = some (.int .u64 one1.fst) ∧ w8.cell? ⟨g3, 2, none⟩ = some (.slice A3 one1.ops.length cap3) := ⟨HX8.out.cell 0, HX8.out.cell 1, HX8.out.cell 2⟩
  have H7 := Lib.hid (same_walk w8 one1 _ _ EW8.out hew8)
  obtain ⟨A8, cap8, hv8, _⟩ := hew8.1.form
  subst hv8
  unfold ecells at H7
  unfold ecells
  clear b8 HX7 EW7 HB7 H6 hew8
  refine hK.out _ _ bd8 (fun _ => ?_)
  clear hK K
  refine wpAnyH_ready (rs := [21]) (by kernel_rfl) (by simp) (AllReadyH.cons (lit rfl) (fun K hK => ?_) AllReadyH.nil)
  go_simp
  go_wp2_with (go_at_call 93; refine H7.out.mono ?_; rintro r w9 ⟨rfl, b9⟩)
  have HX9 : Hid (Has w9 g3 60 [.int .u64 one1.ts, .int .u64 one1.fst, .slice A3 one1.ops.length cap3]) := Lib.hid (HX8.out.under b9 HX8.out.lt)
  have EW9 := Lib.hid (EW8.out.under b9)
  have HB9 := Lib.hid (HB8.out.trans (b9.mono HB8.out.size))
  have bd9 : w9.cell? ⟨g3, 0, none⟩ = some (.int .u64 one1.ts) ∧ w9.cell? ⟨g3, 1, none⟩ = some (.int .u64 one1.fst) ∧ w9.cell? ⟨g3, 2, none⟩ = some (.slice A3 one1.ops.length cap3) := ⟨HX9.out.cell 0, HX9.out.cell 1, HX9.out.cell 2⟩
  clear b9 HX8 EW8 HB8 H7
  refine hK.out _ _ bd9 (fun _ => ?_)
  clear hK K
  refine wpAnyH_take (i := 22) (v := (.bool true)) (lit rfl) (by kernel_rfl) (by kernel_rfl) (by kernel_rfl) (fun _ _ _ h => h) (Or.inl ⟨by rfl, fun w hw => by go_simp⟩) bd9 ?_
  simp only [Act.put, List.setIfInBounds_toArray, List.set_cons_zero, List.set_cons_succ]
  refine wpAnyH_take (i := 23) (v := (.bool true)) (lit rfl) (by kernel_rfl) (by kernel_rfl) (by kernel_rfl) (fun _ _ _ h => h) (Or.inl ⟨by rfl, fun w hw => by go_simp⟩) bd9 ?_
  simp only [Act.put, List.setIfInBounds_toArray, List.set_cons_zero, List.set_cons_succ]
  refine wpAnyH_take (i := 24) (v := (.int .i64 4)) (lit rfl) (by kernel_rfl) (by kernel_rfl) (by kernel_rfl) (fun _ _ _ h => h) (Or.inl ⟨by rfl, fun w hw => by go_simp⟩) bd9 ?_
  simp only [Act.put, List.setIfInBounds_toArray, List.set_cons_zero, List.set_cons_succ]
  refine wpAnyH_take (i := 25) (v := (.bool true)) (lit rfl) (by kernel_rfl) (by kernel_rfl) (by kernel_rfl) (fun _ _ _ h => h) (Or.inl ⟨by rfl, fun w hw => by go_simp⟩) bd9 ?_
  simp only [Act.put, List.setIfInBounds_toArray, List.set_cons_zero, List.set_cons_succ]
  refine wpAnyH_take (i := 26) (v := (.bool true)) (lit rfl) (by kernel_rfl) (by kernel_rfl) (by kernel_rfl) (fun _ _ _ h => h) (Or.inl ⟨by rfl, fun w hw => by go_simp⟩) bd9 ?_
  simp only [Act.put, List.setIfInBounds_toArray, List.set_cons_zero, List.set_cons_succ]
  refine wpAnyH_take (i := 27) (v := (.bool true)) (lit rfl) (by kernel_rfl) (by kernel_rfl) (by kernel_rfl) (fun _ _ _ h => h) (Or.inl ⟨by rfl, fun w hw => by go_simp⟩) bd9 ?_
  simp only [Act.put, List.setIfInBounds_toArray, List.set_cons_zero, List.set_cons_succ]
  refine wpAnyH_take (i := 28) (v := (.agg #[.string ⟨#[97]⟩, .int .u64 0, .bool false, .string ⟨#[]⟩])) (lit rfl) (by kernel_rfl) (by kernel_rfl) (by kernel_rfl) (fun _ _ _ h => h) (Or.inl ⟨by rfl, fun w hw => by go_simp⟩) bd9 ?_
  simp only [Act.put, List.setIfInBounds_toArray, List.set_cons_zero, List.set_cons_succ]
  refine wpAnyH_ready (rs := [29]) (by kernel_rfl) (by simp) (AllReadyH.cons (lit rfl) (fun K hK => ?_) AllReadyH.nil)
  go_simp
  go_wp2_with (go_at_call 31; refine (M1.out _).mono ?_; rintro r w10 ⟨rfl, b10⟩)
  have HX10 : Hid (Has w10 g3 60 [.int .u64 one1.ts, .int .u64 one1.fst, .slice A3 one1.ops.length cap3]) := Lib.hid (HX9.out.under b10 HX9.out.lt)
  have EW10 := Lib.hid (EW9.out.under b10)
  have HB10 := Lib.hid (HB9.out.trans (b10.mono HB9.out.size))
  have bd10 : w10.cell? ⟨g3, 0, none⟩ = some (.int .u64 one1.ts) ∧ w10.cell? ⟨g3, 1, none⟩ = some (.int .u64 one1.fst) ∧ w10.cell? ⟨g3, 2, none⟩ = some (.slice A3 one1.ops.length cap3) := ⟨HX10.out.cell 0, HX10.out.cell 1, HX10.out.cell 2⟩
  clear b10 HX9 EW9 HB9 M1
  refine hK.out _ _ bd10 (fun _ => ?_)
  clear hK K
  refine wpAnyH_take (i := 30) (v := (.bool true)) (lit rfl) (by kernel_rfl) (by kernel_rfl) (by kernel_rfl) (fun _ _ _ h => h) (Or.inl ⟨by rfl, fun w hw => by go_simp⟩) bd10 ?_
  simp only [Act.put, List.setIfInBounds_toArray, List.set_cons_zero, List.set_cons_succ]
  refine wpAnyH_take (i := 31) (v := (.bool true)) (lit rfl) (by kernel_rfl) (by kernel_rfl) (by kernel_rfl) (fun _ _ _ h => h) (Or.inl ⟨by rfl, fun w hw => by go_simp⟩) bd10 ?_
  simp only [Act.put, List.setIfInBounds_toArray, List.set_cons_zero, List.set_cons_succ]
  refine wpAnyH_take (i := 32) (v := (.bool true)) (lit rfl) (by kernel_rfl) (by kernel_rfl) (by kernel_rfl) (fun _ _ _ h => h) (Or.inl ⟨by rfl, fun w hw => by go_simp⟩) bd10 ?_
  simp only [Act.put, List.setIfInBounds_toArray, List.set_cons_zero, List.set_cons_succ]
  refine wpAnyH_take (i := 33) (v := (.agg #[.string ⟨#[]⟩, .int .u64 0, .bool false, .string ⟨#[]⟩])) (lit rfl) (by kernel_rfl) (by kernel_rfl) (by kernel_rfl) (fun _ _ _ h => h) (Or.inl ⟨by rfl, fun w hw => by go_simp⟩) bd10 ?_
  simp only [Act.put, List.setIfInBounds_toArray, List.set_cons_zero, List.set_cons_succ]
  refine wpAnyH_ready (rs := [34]) (by kernel_rfl) (by simp) (AllReadyH.cons (lit rfl) (fun K hK => ?_) AllReadyH.nil)
  go_simp
  go_wp2_with (go_at_call 31; refine (M2.out _).mono ?_; rintro r w11 ⟨rfl, b11⟩)
  have HX11 : Hid (Has w11 g3 60 [.int .u64 one1.ts, .int .u64 one1.fst, .slice A3 one1.ops.length cap3]) := Lib.hid (HX10.out.under b11 HX10.out.lt)
  have EW11 := Lib.hid (EW10.out.under b11)
  have HB11 := Lib.hid (HB10.out.trans (b11.mono HB10.out.size))
  have bd11 : w11.cell? ⟨g3, 0, none⟩ = some (.int .u64 one1.ts) ∧ w11.cell? ⟨g3, 1, none⟩ = some (.int .u64 one1.fst) ∧ w11.cell? ⟨g3, 2, none⟩ = some (.slice A3 one1.ops.length cap3) := ⟨HX11.out.cell 0, HX11.out.cell 1, HX11.out.cell 2⟩
  clear b11 HX10 EW10 HB10 M2
  refine hK.out _ _ bd11 (fun _ => ?_)
  clear hK K
  refine wpAnyH_take (i := 35) (v := (.bool true)) (lit rfl) (by kernel_rfl) (by kernel_rfl) (by kernel_rfl) (fun _ _ _ h => h) (Or.inl ⟨by rfl, fun w hw => by go_simp⟩) bd11 ?_
  simp only [Act.put, List.setIfInBounds_toArray, List.set_cons_zero, List.set_cons_succ]
  refine wpAnyH_take (i := 36) (v := (.bool true)) (lit rfl) (by kernel_rfl) (by kernel_rfl) (by kernel_rfl) (fun _ _ _ h => h) (Or.inl ⟨by rfl, fun w hw => by go_simp⟩) bd11 ?_
  simp only [Act.put, List.setIfInBounds_toArray, List.set_cons_zero, List.set_cons_succ]
  refine wpAnyH_take (i := 37) (v := (.bool true)) (lit rfl) (by kernel_rfl) (by kernel_rfl) (by kernel_rfl) (fun _ _ _ h => h) (Or.inl ⟨by rfl, fun w hw => by go_simp⟩) bd11 ?_
  simp only [Act.put, List.setIfInBounds_toArray, List.set_cons_zero, List.set_cons_succ]
  refine wpAnyH_take (i := 38) (v := (.agg #[.string ⟨#[49, 50, 51, 52, 53, 54, 55, 56, 57, 48, 49, 50, 51, 52, 53, 54, 55]⟩, .int .u64 0, .bool false, .string ⟨#[]⟩])) (lit rfl) (by kernel_rfl) (by kernel_rfl) (by kernel_rfl) (fun _ _ _ h => h) (Or.inl ⟨by rfl, fun w hw => by go_simp⟩) bd11 ?_
  simp only [Act.put, List.setIfInBounds_toArray, List.set_cons_zero, List.set_cons_succ]
  refine wpAnyH_ready (rs := [39]) (by kernel_rfl) (by simp) (AllReadyH.cons (lit rfl) (fun K hK => ?_) AllReadyH.nil)
  go_simp
  go_wp2_with (go_at_call 31; refine (M3.out _).mono ?_; rintro r w12 ⟨rfl, b12⟩)
  have HX12 : Hid (Has w12 g3 60 [.int .u64 one1.ts, .int .u64 one1.fst, .slice A3 one1.ops.length cap3]) := Lib.hid (HX11.out.under b12 HX11.out.lt)
  have EW12 := Lib.hid (EW11.out.under b12)
  have HB12 := Lib.hid (HB11.out.trans (b12.mono HB11.out.size))
  have bd12 : w12.cell? ⟨g3, 0, none⟩ = some (.int .u64 one1.ts) ∧ w12.cell? ⟨g3, 1, none⟩ = some (.int .u64 one1.fst) ∧ w12.cell? ⟨g3, 2, none⟩ = some (.slice A3 one1.ops.length cap3) := ⟨HX12.out.cell 0, HX12.out.cell 1, HX12.out.cell 2⟩
  clear b12 HX11 EW11 HB11 M3
  refine hK.out _ _ bd12 (fun _ => ?_)
  clear hK K
  refine wpAnyH_take (i := 40) (v := (.bool true)) (lit rfl) (by kernel_rfl) (by kernel_rfl) (by kernel_rfl) (fun _ _ _ h => h) (Or.inl ⟨by rfl, fun w hw => by go_simp⟩) bd12 ?_
  simp only [Act.put, List.setIfInBounds_toArray, List.set_cons_zero, List.set_cons_succ]
  refine wpAnyH_take (i := 41) (v := (.bool true)) (lit rfl) (by kernel_rfl) (by kernel_rfl) (by kernel_rfl) (fun _ _ _ h => h) (Or.inl ⟨by rfl, fun w hw => by go_simp⟩) bd12 ?_
  simp only [Act.put, List.setIfInBounds_toArray, List.set_cons_zero, List.set_cons_succ]
  refine wpAnyH_take (i := 42) (v := (.bool true)) (lit rfl) (by kernel_rfl) (by kernel_rfl) (by kernel_rfl) (fun _ _ _ h => h) (Or.inl ⟨by rfl, fun w hw => by go_simp⟩) bd12 ?_
  simp only [Act.put, List.setIfInBounds_toArray, List.set_cons_zero, List.set_cons_succ]
  refine wpAnyH_take (i := 43) (v := (.agg #[.string ⟨#[97]⟩, .int .u64 0, .bool true, .string ⟨#[98]⟩])) (lit rfl) (by kernel_rfl) (by kernel_rfl) (by kernel_rfl) (fun _ _ _ h => h) (Or.inl ⟨by rfl, fun w hw => by go_simp⟩) bd12 ?_
  simp only [Act.put, List.setIfInBounds_toArray, List.set_cons_zero, List.set_cons_succ]
  refine wpAnyH_ready (rs := [44]) (by kernel_rfl) (by simp) (AllReadyH.cons (lit rfl) (fun K hK => ?_) AllReadyH.nil)
  go_simp
  go_wp2_with (go_at_call 31; refine (M4.out _).mono ?_; rintro r w13 ⟨rfl, b13⟩)
  have HX13 : Hid (Has w13 g3 60 [.int .u64 one1.ts, .int .u64 one1.fst, .slice A3 one1.ops.length cap3]) := Lib.hid (HX12.out.under b13 HX12.out.lt)
  have EW13 := Lib.hid (EW12.out.under b13)
  have HB13 := Lib.hid (HB12.out.trans (b13.mono HB12.out.size))
  have bd13 : w13.cell? ⟨g3, 0, none⟩ = some (.int .u64 one1.ts) ∧ w13.cell? ⟨g3, 1, none⟩ = some (.int .u64 one1.fst) ∧ w13.cell? ⟨g3, 2, none⟩ = some (.slice A3 one1.ops.length cap3) := ⟨HX13.out.cell 0, HX13.out.cell 1, HX13.out.cell 2⟩
  clear b13 HX12 EW12 HB12 M4
  refine hK.out _ _ bd13 (fun _ => ?_)
  clear hK K
  refine wpAnyH_take (i := 45) (v := (.bool true)) (lit rfl) (by kernel_rfl) (by kernel_rfl) (by kernel_rfl) (fun _ _ _ h => h) (Or.inl ⟨by rfl, fun w hw => by go_simp⟩) bd13 ?_
  simp only [Act.put, List.setIfInBounds_toArray, List.set_cons_zero, List.set_cons_succ]
  refine wpAnyH_take (i := 46) (v := (.bool true)) (lit rfl) (by kernel_rfl) (by kernel_rfl) (by kernel_rfl) (fun _ _ _ h => h) (Or.inl ⟨by rfl, fun w hw => by go_simp⟩) bd13 ?_
  simp only [Act.put, List.setIfInBounds_toArray, List.set_cons_zero, List.set_cons_succ]
  refine wpAnyH_ready (rs := [47]) (by kernel_rfl) (by simp) (AllReadyH.cons (lit rfl) (fun K hK => ?_) AllReadyH.nil)
  go_simp
  refine hK.out _ _ bd13 (fun _ => ?_)
  clear hK K
  refine wpAnyH_done (by kernel_rfl) ?_ _
  go_wp2
  go_ret
  exact ⟨rfl, HB13.out⟩
end LW
end Go.Proofs.Ytkhdidhpcdlmcaa
