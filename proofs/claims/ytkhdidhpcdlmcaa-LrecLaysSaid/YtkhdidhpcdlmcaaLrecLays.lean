/- May a record, and an entry, be, and which bytes has it: as the document says: of all records and entries (the first ten of their operations). No condition. -/
import Derived.Test.YtkhdidhpcdlmcaaLrecRefEnc
import Derived.Test.YtkhdidhpcdlmcaaLrecArgs
namespace Go.Proofs.Ytkhdidhpcdlmcaa
set_option maxRecDepth 100000
open Go.ChangeShapes Go.WideShapes Go.ChangeAt Go.RowKit Go.Lib MM MB MS MF DE WM WP WR CM CE FL LM LQ LC LA LL RS LR LTk LD LW LAr LK LF LG LE2
namespace LrecLays
section
variable {H : Type} {enc : TypeId × Value → H} {w : World}
theorem open_one {v : Value} {d : DataW H} {ps : List MemPlace} {base0 : Nat} (hval : Value.okWide Try.prog w .any base0 57 v) (h : DataW.Trod enc Try.prog w 0 (fun _ => true) true 57 v d ps) : ∃ x : Ro, v = .agg (ocells x).toArray ∧ x.key.length ≤ 9223372036854775807 := by
  obtain ⟨cs, rfl, hcs⟩ := okWide_struct Try.underlying57 hval
  rw [show Try.prog.cellsOf 57 = 4 from by kernel_rfl] at hcs
  obtain ⟨fuel, hf⟩ := h
  simp only [Value.cells] at hf
  obtain ⟨y, h1, _, _, h4⟩ := open_rec hf (by simpa using hcs)
  refine ⟨y, ?_, h1⟩
  rw [← h4]
end
set_option maxHeartbeats 8000000 in
theorem walk (W : World) (x : Ro) (e : En) (v : Value) (hE : Ew W e v) : Calls Try.prog 6 #[.agg (ocells x).toArray, .agg (ecells e v).toArray] W fun r w' => r = .returned (.bool true) ∧ Below W.heap.size W w' := by
  obtain ⟨A, cap, rfl, hol⟩ := hE.1.form
  obtain ⟨gr, egr⟩ : ∃ gr, gr = W.heap.size := ⟨_, rfl⟩
  obtain ⟨gb, egb⟩ : ∃ gb, gb = W.heap.size + 1 := ⟨_, rfl⟩
  obtain ⟨w0, hw0⟩ : ∃ w0, w0 = (W.alloc (.cells (ocells x).toArray 57)).alloc (.cells (ecells e (.slice A e.ops.length cap)).toArray 60) := ⟨_, rfl⟩
  have b0 : Below W.heap.size W w0 := by rw [hw0]; exact ((Below.refl _ W).alloc (Nat.le_refl _) _).alloc (by simp [World.size_alloc]) _
  have y0 : Has w0 gr 57 (ocells x) := by rw [hw0, egr]; exact (show Has (W.alloc (.cells (ocells x).toArray 57)) W.heap.size 57 (ocells x) from heap_alloc_new _ _).grow _
  have x0 : Has w0 gb 60 (ecells e (.slice A e.ops.length cap)) := by
    have := heap_alloc_new (W.alloc (.cells (ocells x).toArray 57)) (.cells (ecells e (.slice A e.ops.length cap)).toArray 60)
    rw [World.size_alloc] at this
    rw [hw0, egb]
    exact this
  have hcap : e.ops.length ≤ cap := by
    obtain ⟨A', cap', e1, h1, _⟩ := hE.1
    injection e1 with e1 e2 e3
    omega
  have hm : min (e.ops.length : Int) 10 = ((min e.ops.length 10 : Nat) : Int) := by omega
  obtain ⟨m, hmm⟩ : ∃ m, m = min e.ops.length 10 := ⟨_, rfl⟩
  rw [← hmm] at hm
  have hm1 : m ≤ e.ops.length := by rw [hmm]; exact Nat.min_le_left _ _
  have i1 : (0 : Int) ≤ (m : Int) := by omega
  have i2 : (m : Int) ≤ (cap : Int) := by omega
  have hgb : W.heap.size ≤ gb := by rw [egb]; exact Nat.le_succ _
  have hne : gr ≠ gb := by rw [egr, egb]; omega
  obtain ⟨w2, hw2⟩ : ∃ w2, w2 = w0.setCell ⟨gb, 2, none⟩ (.slice A m cap) := ⟨_, rfl⟩
  have HB2 : Hid (Below W.heap.size W w2) := Lib.hid (by rw [hw2]; exact b0.setCell hgb _)
  have HE2 : Hid (Ew w2 (ten e) (.slice A m cap)) := Lib.hid (by rw [hmm]; exact ew_ten (hE.under HB2.out))
  have HX2 : Hid (Has w2 gb 60 [.int .u64 e.ts, .int .u64 e.fst, .slice A m cap]) := Lib.hid (by rw [hw2]; exact x0.put 2 (.slice A m cap))
  have HY2 : Hid (Has w2 gr 57 (ocells x)) := Lib.hid (by rw [hw2]; exact y0.far hne _)
  have c0 : w0.cell? ⟨gb, 0, none⟩ = some (.int .u64 e.ts) := x0.cell 0
  have c1 : w0.cell? ⟨gb, 1, none⟩ = some (.int .u64 e.fst) := x0.cell 1
  have c2 : w0.cell? ⟨gb, 2, none⟩ = some (.slice A e.ops.length cap) := x0.cell 2
  have f2 := x0.free 2
  have HEN := Lib.hid (encode_walk w2 (ten e) _ HE2.out)
  have HRE := Lib.hid (fun (wq : World) (h : Ew wq (ten e) (.slice A m cap)) => refEncode_walk wq (ten e) _ h)
  have HCK := Lib.hid (fun (wq : World) (h : Ew wq (ten e) (.slice A m cap)) => check_walk wq (ten e) _ h)
  have HRC := Lib.hid (fun (wq : World) (h : Ew wq (ten e) (.slice A m cap)) => refCheck_walk wq (ten e) _ h)
  have HMY := Lib.hid (fun wq => may_walk wq x)
  have HRM := Lib.hid (fun wq => refMay_walk wq x)
  obtain ⟨L, hL⟩ : ∃ L, L = encL (ten e) := ⟨_, rfl⟩
  obtain ⟨c, hc⟩ : ∃ c, c = checkE (ten e) := ⟨_, rfl⟩
  obtain ⟨mm, hmo⟩ : ∃ mm, mm = mayO x := ⟨_, rfl⟩
  rw [← hL, ← hc] at HEN HRE
  rw [← hc] at HCK HRC
  rw [← hmo] at HMY HRM
  unfold ecells at HEN HRE HCK HRC
  unfold ocells at HMY HRM
  unfold ecells ocells at hw0 ⊢
  clear hE b0 x0 y0 hmm hgb hL hc hmo hcap
  go_enter Try.func6, Try.ntmps6
  go_upto_region 1 with (fail)
  rw [← hw0]
  rw [← egb, ← egr]
  clear hw0 egr egb
  go_wp2_with fail
  rw [← hw2]
  clear hw2 c0 c1 c2 f2 hm hm1 i1 i2 hol
  refine HEN.out.mono ?_
  rintro r w3 ⟨rfl, b3⟩
  have HX3 := Lib.hid (HX2.out.under b3 HX2.out.lt)
  have HY3 := Lib.hid (HY2.out.under b3 HY2.out.lt)
  have HE3 := Lib.hid (HE2.out.under b3)
  have HB3 := Lib.hid (HB2.out.trans (b3.mono HB2.out.size))
  have c0 : w3.cell? ⟨gb, 0, none⟩ = some (.int .u64 e.ts) := HX3.out.cell 0
  have c1 : w3.cell? ⟨gb, 1, none⟩ = some (.int .u64 e.fst) := HX3.out.cell 1
  have c2 : w3.cell? ⟨gb, 2, none⟩ = some (.slice A m cap) := HX3.out.cell 2
  clear b3 HX2 HY2 HE2 HB2 HEN
  go_wp2_with fail
  refine (HRE.out _ HE3.out).mono ?_
  rintro r w4 ⟨rfl, b4⟩
  have HX4 := Lib.hid (HX3.out.under b4 HX3.out.lt)
  have HY4 := Lib.hid (HY3.out.under b4 HY3.out.lt)
  have HE4 := Lib.hid (HE3.out.under b4)
  have HB4 := Lib.hid (HB3.out.trans (b4.mono HB3.out.size))
  clear b4 HX3 HY3 HE3 HB3 HRE c0 c1 c2
  go_wp2_with fail
  have HXd := Lib.hid (HX4.out.under (below_drew w4) HX4.out.lt)
  have HYd := Lib.hid (HY4.out.under (below_drew w4) HY4.out.lt)
  have HEd := Lib.hid (HE4.out.under (below_drew w4))
  have HBd := Lib.hid (HB4.out.trans ((below_drew w4).mono HB4.out.size))
  clear HX4 HY4 HE4 HB4
  have bdd : (w4.drew.cell? ⟨gr, 0, none⟩ = some (.string ⟨x.key.toArray⟩) ∧ w4.drew.cell? ⟨gr, 1, none⟩ = some (.int .u64 x.lsn) ∧ w4.drew.cell? ⟨gr, 2, none⟩ = some (.bool x.del) ∧ w4.drew.cell? ⟨gr, 3, none⟩ = some (.string ⟨x.val.toArray⟩)) ∧ w4.drew.cell? ⟨gb, 0, none⟩ = some (.int .u64 e.ts) ∧ w4.drew.cell? ⟨gb, 1, none⟩ = some (.int .u64 e.fst) ∧ w4.drew.cell? ⟨gb, 2, none⟩ = some (.slice A m cap) := ⟨⟨HYd.out.cell 0, HYd.out.cell 1, HYd.out.cell 2, HYd.out.cell 3⟩, HXd.out.cell 0, HXd.out.cell 1, HXd.out.cell 2⟩
  refine wp_region_held_drew (S := fun w' => (w'.cell? ⟨gr, 0, none⟩ = some (.string ⟨x.key.toArray⟩) ∧ w'.cell? ⟨gr, 1, none⟩ = some (.int .u64 x.lsn) ∧ w'.cell? ⟨gr, 2, none⟩ = some (.bool x.del) ∧ w'.cell? ⟨gr, 3, none⟩ = some (.string ⟨x.val.toArray⟩)) ∧ w'.cell? ⟨gb, 0, none⟩ = some (.int .u64 e.ts) ∧ w'.cell? ⟨gb, 1, none⟩ = some (.int .u64 e.fst) ∧ w'.cell? ⟨gb, 2, none⟩ = some (.slice A m cap)) (by kernel_rfl) bdd (fun hS => ?_)
  refine wpAnyH_take (i := 0) (v := (.agg #[.string ⟨x.key.toArray⟩, .int .u64 x.lsn, .bool x.del, .string ⟨x.val.toArray⟩])) (lit rfl) (by kernel_rfl) (by kernel_rfl) (by kernel_rfl) (fun _ _ _ h => h) (Or.inl ⟨by rfl, fun w hw => by obtain ⟨⟨k0, k1, k2, k3⟩, k4, k5, k6⟩ := hw; go_simp⟩) bdd ?_
  simp only [Act.put, List.setIfInBounds_toArray, List.set_cons_zero, List.set_cons_succ]
  refine wpAnyH_take (i := 2) (v := (.agg #[.string ⟨x.key.toArray⟩, .int .u64 x.lsn, .bool x.del, .string ⟨x.val.toArray⟩])) (lit rfl) (by kernel_rfl) (by kernel_rfl) (by kernel_rfl) (fun _ _ _ h => h) (Or.inl ⟨by rfl, fun w hw => by obtain ⟨⟨k0, k1, k2, k3⟩, k4, k5, k6⟩ := hw; go_simp⟩) bdd ?_
  simp only [Act.put, List.setIfInBounds_toArray, List.set_cons_zero, List.set_cons_succ]
  refine wpAnyH_ready (rs := [1]) (by kernel_rfl) (by simp) (AllReadyH.cons (lit rfl) (fun K hK => ?_) AllReadyH.nil)
  go_simp
  go_wp2_with (go_at_call 31; refine (HMY.out _).mono ?_; rintro r w5 ⟨rfl, b5⟩)
  have HX5 := Lib.hid (HXd.out.under b5 HXd.out.lt)
  have HY5 := Lib.hid (HYd.out.under b5 HYd.out.lt)
  have HE5 := Lib.hid (HEd.out.under b5)
  have HB5 := Lib.hid (HBd.out.trans (b5.mono HBd.out.size))
  have bd5 : (w5.cell? ⟨gr, 0, none⟩ = some (.string ⟨x.key.toArray⟩) ∧ w5.cell? ⟨gr, 1, none⟩ = some (.int .u64 x.lsn) ∧ w5.cell? ⟨gr, 2, none⟩ = some (.bool x.del) ∧ w5.cell? ⟨gr, 3, none⟩ = some (.string ⟨x.val.toArray⟩)) ∧ w5.cell? ⟨gb, 0, none⟩ = some (.int .u64 e.ts) ∧ w5.cell? ⟨gb, 1, none⟩ = some (.int .u64 e.fst) ∧ w5.cell? ⟨gb, 2, none⟩ = some (.slice A m cap) := ⟨⟨HY5.out.cell 0, HY5.out.cell 1, HY5.out.cell 2, HY5.out.cell 3⟩, HX5.out.cell 0, HX5.out.cell 1, HX5.out.cell 2⟩
  clear b5 HXd HYd HEd HBd
  refine hK.out _ _ bd5 (fun _ => ?_)
  clear hK K
  refine wpAnyH_ready (rs := [3]) (by kernel_rfl) (by simp) (AllReadyH.cons (lit rfl) (fun K hK => ?_) AllReadyH.nil)
  go_simp
  go_wp2_with (go_at_call 32; refine (HRM.out _).mono ?_; rintro r w6 ⟨rfl, b6⟩)
  have HX6 := Lib.hid (HX5.out.under b6 HX5.out.lt)
  have HY6 := Lib.hid (HY5.out.under b6 HY5.out.lt)
  have HE6 := Lib.hid (HE5.out.under b6)
  have HB6 := Lib.hid (HB5.out.trans (b6.mono HB5.out.size))
  have bd6 : (w6.cell? ⟨gr, 0, none⟩ = some (.string ⟨x.key.toArray⟩) ∧ w6.cell? ⟨gr, 1, none⟩ = some (.int .u64 x.lsn) ∧ w6.cell? ⟨gr, 2, none⟩ = some (.bool x.del) ∧ w6.cell? ⟨gr, 3, none⟩ = some (.string ⟨x.val.toArray⟩)) ∧ w6.cell? ⟨gb, 0, none⟩ = some (.int .u64 e.ts) ∧ w6.cell? ⟨gb, 1, none⟩ = some (.int .u64 e.fst) ∧ w6.cell? ⟨gb, 2, none⟩ = some (.slice A m cap) := ⟨⟨HY6.out.cell 0, HY6.out.cell 1, HY6.out.cell 2, HY6.out.cell 3⟩, HX6.out.cell 0, HX6.out.cell 1, HX6.out.cell 2⟩
  clear b6 HX5 HY5 HE5 HB5
  refine hK.out _ _ bd6 (fun _ => ?_)
  clear hK K
  refine wpAnyH_take (i := 4) (v := (.bool true)) (lit rfl) (by kernel_rfl) (by kernel_rfl) (by kernel_rfl) (fun _ _ _ h => h) (Or.inl ⟨by rfl, fun w hw => by go_simp⟩) bd6 ?_
  simp only [Act.put, List.setIfInBounds_toArray, List.set_cons_zero, List.set_cons_succ]
  refine wpAnyH_take (i := 5) (v := (.bool true)) (lit rfl) (by kernel_rfl) (by kernel_rfl) (by kernel_rfl) (fun _ _ _ h => h) (Or.inl ⟨by rfl, fun w hw => by go_simp⟩) bd6 ?_
  simp only [Act.put, List.setIfInBounds_toArray, List.set_cons_zero, List.set_cons_succ]
  refine wpAnyH_take (i := 6) (v := (.agg #[.int .u64 e.ts, .int .u64 e.fst, .slice A m cap])) (lit rfl) (by kernel_rfl) (by kernel_rfl) (by kernel_rfl) (fun _ _ _ h => h) (Or.inl ⟨by rfl, fun w hw => by obtain ⟨⟨k0, k1, k2, k3⟩, k4, k5, k6⟩ := hw; go_simp⟩) bd6 ?_
  simp only [Act.put, List.setIfInBounds_toArray, List.set_cons_zero, List.set_cons_succ]
  refine wpAnyH_take (i := 8) (v := (.agg #[.int .u64 e.ts, .int .u64 e.fst, .slice A m cap])) (lit rfl) (by kernel_rfl) (by kernel_rfl) (by kernel_rfl) (fun _ _ _ h => h) (Or.inl ⟨by rfl, fun w hw => by obtain ⟨⟨k0, k1, k2, k3⟩, k4, k5, k6⟩ := hw; go_simp⟩) bd6 ?_
  simp only [Act.put, List.setIfInBounds_toArray, List.set_cons_zero, List.set_cons_succ]
  refine wpAnyH_ready (rs := [7]) (by kernel_rfl) (by simp) (AllReadyH.cons (lit rfl) (fun K hK => ?_) AllReadyH.nil)
  go_simp
  go_wp2_with (go_at_call 33; refine (HCK.out _ HE6.out).mono ?_; rintro r w7 ⟨rfl, b7⟩)
  have HX7 := Lib.hid (HX6.out.under b7 HX6.out.lt)
  have HY7 := Lib.hid (HY6.out.under b7 HY6.out.lt)
  have HE7 := Lib.hid (HE6.out.under b7)
  have HB7 := Lib.hid (HB6.out.trans (b7.mono HB6.out.size))
  have bd7 : (w7.cell? ⟨gr, 0, none⟩ = some (.string ⟨x.key.toArray⟩) ∧ w7.cell? ⟨gr, 1, none⟩ = some (.int .u64 x.lsn) ∧ w7.cell? ⟨gr, 2, none⟩ = some (.bool x.del) ∧ w7.cell? ⟨gr, 3, none⟩ = some (.string ⟨x.val.toArray⟩)) ∧ w7.cell? ⟨gb, 0, none⟩ = some (.int .u64 e.ts) ∧ w7.cell? ⟨gb, 1, none⟩ = some (.int .u64 e.fst) ∧ w7.cell? ⟨gb, 2, none⟩ = some (.slice A m cap) := ⟨⟨HY7.out.cell 0, HY7.out.cell 1, HY7.out.cell 2, HY7.out.cell 3⟩, HX7.out.cell 0, HX7.out.cell 1, HX7.out.cell 2⟩
  clear b7 HX6 HY6 HE6 HB6
  refine hK.out _ _ bd7 (fun _ => ?_)
  clear hK K
  refine wpAnyH_ready (rs := [9]) (by kernel_rfl) (by simp) (AllReadyH.cons (lit rfl) (fun K hK => ?_) AllReadyH.nil)
  go_simp
  go_wp2_with (go_at_call 34; refine (HRC.out _ HE7.out).mono ?_; rintro r w8 ⟨rfl, b8⟩)
  have HX8 := Lib.hid (HX7.out.under b8 HX7.out.lt)
  have HY8 := Lib.hid (HY7.out.under b8 HY7.out.lt)
  have HE8 := Lib.hid (HE7.out.under b8)
  have HB8 := Lib.hid (HB7.out.trans (b8.mono HB7.out.size))
  have bd8 : (w8.cell? ⟨gr, 0, none⟩ = some (.string ⟨x.key.toArray⟩) ∧ w8.cell? ⟨gr, 1, none⟩ = some (.int .u64 x.lsn) ∧ w8.cell? ⟨gr, 2, none⟩ = some (.bool x.del) ∧ w8.cell? ⟨gr, 3, none⟩ = some (.string ⟨x.val.toArray⟩)) ∧ w8.cell? ⟨gb, 0, none⟩ = some (.int .u64 e.ts) ∧ w8.cell? ⟨gb, 1, none⟩ = some (.int .u64 e.fst) ∧ w8.cell? ⟨gb, 2, none⟩ = some (.slice A m cap) := ⟨⟨HY8.out.cell 0, HY8.out.cell 1, HY8.out.cell 2, HY8.out.cell 3⟩, HX8.out.cell 0, HX8.out.cell 1, HX8.out.cell 2⟩
  clear b8 HX7 HY7 HE7 HB7
  refine hK.out _ _ bd8 (fun _ => ?_)
  clear hK K
  refine wpAnyH_take (i := 10) (v := (.bool true)) (lit rfl) (by kernel_rfl) (by kernel_rfl) (by kernel_rfl) (fun _ _ _ h => h) (Or.inl ⟨by rfl, fun w hw => by go_simp⟩) bd8 ?_
  simp only [Act.put, List.setIfInBounds_toArray, List.set_cons_zero, List.set_cons_succ]
  refine wpAnyH_take (i := 11) (v := (.bool true)) (lit rfl) (by kernel_rfl) (by kernel_rfl) (by kernel_rfl) (fun _ _ _ h => h) (Or.inl ⟨by rfl, fun w hw => by go_simp⟩) bd8 ?_
  simp only [Act.put, List.setIfInBounds_toArray, List.set_cons_zero, List.set_cons_succ]
  refine wpAnyH_take (i := 12) (v := (.bool true)) (lit rfl) (by kernel_rfl) (by kernel_rfl) (by kernel_rfl) (fun _ _ _ h => h) (Or.inl ⟨by rfl, fun w hw => by go_simp⟩) bd8 ?_
  simp only [Act.put, List.setIfInBounds_toArray, List.set_cons_zero, List.set_cons_succ]
  refine wpAnyH_take (i := 13) (v := (.string ⟨L.toArray⟩)) (lit rfl) (by kernel_rfl) (by kernel_rfl) (by kernel_rfl) (fun _ _ _ h => h) (Or.inl ⟨by rfl, fun w hw => by go_simp⟩) bd8 ?_
  simp only [Act.put, List.setIfInBounds_toArray, List.set_cons_zero, List.set_cons_succ]
  refine wpAnyH_take (i := 14) (v := (.string ⟨L.toArray⟩)) (lit rfl) (by kernel_rfl) (by kernel_rfl) (by kernel_rfl) (fun _ _ _ h => h) (Or.inl ⟨by rfl, fun w hw => by go_simp⟩) bd8 ?_
  simp only [Act.put, List.setIfInBounds_toArray, List.set_cons_zero, List.set_cons_succ]
  refine wpAnyH_take (i := 15) (v := (.bool true)) (lit rfl) (by kernel_rfl) (by kernel_rfl) (by kernel_rfl) (fun _ _ _ h => h) (Or.inl ⟨by rfl, fun w hw => by go_simp⟩) bd8 ?_
  simp only [Act.put, List.setIfInBounds_toArray, List.set_cons_zero, List.set_cons_succ]
  refine wpAnyH_take (i := 16) (v := (.bool true)) (lit rfl) (by kernel_rfl) (by kernel_rfl) (by kernel_rfl) (fun _ _ _ h => h) (Or.inl ⟨by rfl, fun w hw => by go_simp⟩) bd8 ?_
  simp only [Act.put, List.setIfInBounds_toArray, List.set_cons_zero, List.set_cons_succ]
  refine wpAnyH_take (i := 17) (v := (.bool true)) (lit rfl) (by kernel_rfl) (by kernel_rfl) (by kernel_rfl) (fun _ _ _ h => h) (Or.inl ⟨by rfl, fun w hw => by go_simp⟩) bd8 ?_
  simp only [Act.put, List.setIfInBounds_toArray, List.set_cons_zero, List.set_cons_succ]
  refine wpAnyH_take (i := 18) (v := (.int .i64 c)) (lit rfl) (by kernel_rfl) (by kernel_rfl) (by kernel_rfl) (fun _ _ _ h => h) (Or.inl ⟨by rfl, fun w hw => by go_simp⟩) bd8 ?_
  simp only [Act.put, List.setIfInBounds_toArray, List.set_cons_zero, List.set_cons_succ]
  refine wpAnyH_take (i := 19) (v := (.int .i64 c)) (lit rfl) (by kernel_rfl) (by kernel_rfl) (by kernel_rfl) (fun _ _ _ h => h) (Or.inl ⟨by rfl, fun w hw => by go_simp⟩) bd8 ?_
  simp only [Act.put, List.setIfInBounds_toArray, List.set_cons_zero, List.set_cons_succ]
  refine wpAnyH_take (i := 20) (v := (.bool true)) (lit rfl) (by kernel_rfl) (by kernel_rfl) (by kernel_rfl) (fun _ _ _ h => h) (Or.inl ⟨by rfl, fun w hw => by go_simp⟩) bd8 ?_
  simp only [Act.put, List.setIfInBounds_toArray, List.set_cons_zero, List.set_cons_succ]
  refine wpAnyH_take (i := 21) (v := (.bool true)) (lit rfl) (by kernel_rfl) (by kernel_rfl) (by kernel_rfl) (fun _ _ _ h => h) (Or.inl ⟨by rfl, fun w hw => by go_simp⟩) bd8 ?_
  simp only [Act.put, List.setIfInBounds_toArray, List.set_cons_zero, List.set_cons_succ]
  refine wpAnyH_take (i := 22) (v := (.bool true)) (lit rfl) (by kernel_rfl) (by kernel_rfl) (by kernel_rfl) (fun _ _ _ h => h) (Or.inl ⟨by rfl, fun w hw => by go_simp⟩) bd8 ?_
  simp only [Act.put, List.setIfInBounds_toArray, List.set_cons_zero, List.set_cons_succ]
  refine wpAnyH_ready (rs := [23]) (by kernel_rfl) (by simp) (AllReadyH.cons (lit rfl) (fun K hK => ?_) AllReadyH.nil)
  go_simp
  go_wp2_with (go_at_call 35; refine (works_walk _).mono ?_; rintro r w9 ⟨rfl, b9⟩)
  have HX9 := Lib.hid (HX8.out.under b9 HX8.out.lt)
  have HY9 := Lib.hid (HY8.out.under b9 HY8.out.lt)
  have HE9 := Lib.hid (HE8.out.under b9)
  have HB9 := Lib.hid (HB8.out.trans (b9.mono HB8.out.size))
  have bd9 : (w9.cell? ⟨gr, 0, none⟩ = some (.string ⟨x.key.toArray⟩) ∧ w9.cell? ⟨gr, 1, none⟩ = some (.int .u64 x.lsn) ∧ w9.cell? ⟨gr, 2, none⟩ = some (.bool x.del) ∧ w9.cell? ⟨gr, 3, none⟩ = some (.string ⟨x.val.toArray⟩)) ∧ w9.cell? ⟨gb, 0, none⟩ = some (.int .u64 e.ts) ∧ w9.cell? ⟨gb, 1, none⟩ = some (.int .u64 e.fst) ∧ w9.cell? ⟨gb, 2, none⟩ = some (.slice A m cap) := ⟨⟨HY9.out.cell 0, HY9.out.cell 1, HY9.out.cell 2, HY9.out.cell 3⟩, HX9.out.cell 0, HX9.out.cell 1, HX9.out.cell 2⟩
  clear b9 HX8 HY8 HE8 HB8
  refine hK.out _ _ bd9 (fun _ => ?_)
  clear hK K
  refine wpAnyH_take (i := 24) (v := (.bool true)) (lit rfl) (by kernel_rfl) (by kernel_rfl) (by kernel_rfl) (fun _ _ _ h => h) (Or.inl ⟨by rfl, fun w hw => by go_simp⟩) bd9 ?_
  simp only [Act.put, List.setIfInBounds_toArray, List.set_cons_zero, List.set_cons_succ]
  refine wpAnyH_ready (rs := [25]) (by kernel_rfl) (by simp) (AllReadyH.cons (lit rfl) (fun K hK => ?_) AllReadyH.nil)
  go_simp
  refine hK.out _ _ bd9 (fun _ => ?_)
  clear hK K
  refine wpAnyH_done (by kernel_rfl) ?_ _
  go_wp2
  go_ret
  exact ⟨rfl, HB9.out⟩

set_option maxRecDepth 100000 in
theorem lifted (os : Os) (started : os.Started) (H : Type) (enc : TypeId × Value → H) :
    ReturnsInHanded {} Try.checked os 6 .any (Rows.lrecLaysSpec.pre6 enc Try.prog Try.f6 Rows.lrecLaysRow.domain false) (Rows.lrecLaysSpec.post enc Try.prog Try.f6 false true false false) := by
  refine returnsInHanded_of_change (C := Try.checked) own started (by kernel_rfl) Try.func6
    (ChangeSpec.witness6 (enc := enc) (C := Try.checked) false ⟨#[], #[.agg #[.string ⟨#[]⟩, .int .u64 0, .bool false, .string ⟨#[]⟩], .agg #[.int .u64 0, .int .u64 0, .slice none 0 0]], []⟩ 8 (by kernel_rfl) (by kernel_rfl) (by kernel_rfl) (by kernel_rfl)) ?_
  intro W base args ds gs before hval0 hW hcnd _
  have hval : ∀ (j : Nat) t v, Try.f6.params[j]? = some t → args[j]? = some v → Value.okWide Try.prog W .any base t v := hval0
  have hW' := hW
  obtain ⟨p, q, hA0, hV, rfl, hfz, hnd⟩ := hW
  have hA : DataW.TrodAll enc Try.prog W 0 (fun _ => true) true Try.f6.params.toList args.toList ds p := hA0
  rw [Try.params6] at hA hval
  obtain ⟨v0, vs0, d0, ds0, p0, q0, hargs, rfl, rfl, h0, r0⟩ := trodAll_cons hA
  obtain ⟨v1, vs1, d1, ds1, p1, q1, rfl, rfl, rfl, h1, r1⟩ := trodAll_cons r0
  obtain ⟨rfl, rfl, rfl⟩ := trodAll_nil r1
  obtain rfl : args = #[v0, v1] := by cases args; simp_all
  obtain ⟨rfl, rfl⟩ := trodVars_none hV
  obtain ⟨x0, rfl, _⟩ := open_one (hval 0 57 v0 rfl rfl) h0
  obtain ⟨e1, vo1, rfl, hE1⟩ := open_entry (hval 1 60 v1 rfl rfl) h1
  clear hA0 hval0
  have hc := walk W x0 e1 vo1 hE1
  try simp only [Array.toArray_toList] at hc
  refine hc.mono fun e W' ⟨he, hg⟩ => ?_
  subst he
  exact ⟨_, rfl, law_post rfl (by decide +kernel) (by kernel_rfl) rfl hW' hg⟩

theorem over : Rows.lrecLaysRow.holds Try.pinned (OpenSpec.ofChange Rows.lrecLaysSpec) :=
  OpenClaim.holds_of_wide 6 Try.f6 rfl rfl rfl rfl rfl rfl rfl ⟨rfl, rfl, rfl, rfl, rfl⟩ rfl rfl rfl rfl rfl (by kernel_rfl) Try.func6 (by kernel_rfl)
    (of_decide_eq_true (by kernel_rfl)) (by unfold Func.isWrapper; first | (rw [if_pos (by decide +kernel)]; kernel_rfl) | (rw [if_neg (by decide +kernel)]; exact ⟨rfl, rfl⟩))
    (fun os started H enc _ => lifted os started H enc)

theorem proved : Rows.LrecLaysSaid :=
  over
#print axioms proved
end LrecLays
end Go.Proofs.Ytkhdidhpcdlmcaa
