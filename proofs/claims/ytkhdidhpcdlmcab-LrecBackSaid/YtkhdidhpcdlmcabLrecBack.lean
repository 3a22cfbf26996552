/- An entry comes back from its bytes, whatever stands behind them; and bytes that are taken are laid again just so: of all entries (the first ten of their operations) and bytes (the first two thousand). No condition. -/
import Derived.Test.YtkhdidhpcdlmcabLrecArgs
namespace Go.Proofs.Ytkhdidhpcdlmcab
set_option maxRecDepth 100000
open Go.ChangeShapes Go.WideShapes Go.ChangeAt Go.RowKit Go.Lib MM MB MS MF DE WM WP WR CM CE LM LQ LC LA LL RS LR LTk LD LW LAr LK
namespace LrecBack
set_option maxHeartbeats 8000000 in
theorem walk (W : World) (e : En) (v : Value) (hE : Ew W e v) (bh : List UInt8) (hbl : bh.length ≤ 9223372036854775807) : Calls Try.prog 4 #[.agg (ecells e v).toArray, .string ⟨bh.toArray⟩] W fun r w' => r = .returned (.bool true) ∧ Below W.heap.size W w' := by
  obtain ⟨A, cap, rfl, hol⟩ := hE.1.form
  obtain ⟨bx, ebx⟩ : ∃ bx, bx = W.heap.size := ⟨_, rfl⟩
  obtain ⟨w0, hw0⟩ : ∃ w0, w0 = W.alloc (.cells (ecells e (.slice A e.ops.length cap)).toArray 25) := ⟨_, rfl⟩
  have b0 : Below W.heap.size W w0 := by rw [hw0]; exact (Below.refl _ _).alloc (Nat.le_refl _) _
  have x0 : Has w0 bx 25 (ecells e (.slice A e.ops.length cap)) := by rw [hw0, ebx]; exact heap_alloc_new _ _
  have hcap : e.ops.length ≤ cap := by
    obtain ⟨A', cap', e1, h1, _⟩ := hE.1
    injection e1 with e1 e2 e3
    omega
  have HB0 := Lib.hid b0
  have HX0 := Lib.hid x0
  have HE := Lib.hid hE
  have HWK := Lib.hid (works_walk w0)
  have HBX : Hid (bx = W.heap.size) := Lib.hid ebx
  have hm : min (e.ops.length : Int) 10 = ((min e.ops.length 10 : Nat) : Int) := by omega
  obtain ⟨m, hmm⟩ : ∃ m, m = min e.ops.length 10 := ⟨_, rfl⟩
  rw [← hmm] at hm
  have hm1 : m ≤ e.ops.length := by rw [hmm]; exact Nat.min_le_left _ _
  have HMM := Lib.hid hmm
  unfold ecells at hw0 HX0 ⊢
  clear b0 x0 hE hmm
  have hmb : min (bh.length : Int) 2000 = ((min bh.length 2000 : Nat) : Int) := by omega
  obtain ⟨q, hqq⟩ : ∃ q, q = min bh.length 2000 := ⟨_, rfl⟩
  rw [← hqq] at hmb
  have hq1 : q ≤ bh.length := by omega
  have hq2 : q ≤ 2000 := by omega
  have hszb : (⟨bh.toArray⟩ : ByteArray).size = bh.length := rfl
  have hexb : (⟨bh.toArray⟩ : ByteArray).extract 0 q = ⟨(bh.take q).toArray⟩ := by rw [ByteArray.extract_mk]; simp
  have iq1 : (0 : Int) ≤ (q : Int) := by omega
  have iq2 : (q : Int) ≤ (bh.length : Int) := by omega
  obtain ⟨B, hBB⟩ : ∃ B, B = bh.take q := ⟨_, rfl⟩
  have hBl : B.length ≤ 2000 := by rw [hBB, List.length_take]; omega
  rw [← hBB] at hexb
  clear hqq hq1 hq2 hbl hBB
  go_enter Try.func4, Try.ntmps4
  go_wp2_with fail
  rw [← hw0]
  rw [← ebx]
  clear hw0 ebx
  refine HWK.out.mono ?_
  rintro r w1 ⟨rfl, b1⟩
  have HX1 := Lib.hid (HX0.out.under b1 HX0.out.lt)
  have HB1 := Lib.hid (HB0.out.trans (b1.mono HB0.out.size))
  have c0 : w1.cell? ⟨bx, 0, none⟩ = some (.int .u64 e.ts) := HX1.out.cell 0
  have c1 : w1.cell? ⟨bx, 1, none⟩ = some (.int .u64 e.fst) := HX1.out.cell 1
  have c2 : w1.cell? ⟨bx, 2, none⟩ = some (.slice A e.ops.length cap) := HX1.out.cell 2
  have f2 := HX1.out.free 2
  clear b1 HX0 HB0 HWK
  have i1 : (0 : Int) ≤ (m : Int) := by omega
  have i2 : (m : Int) ≤ (cap : Int) := by omega
  go_wp2_with fail
  have hbw : W.heap.size ≤ bx := by rw [HBX.out]; exact Nat.le_refl _
  obtain ⟨w2, hw2⟩ : ∃ w2, w2 = w1.setCell ⟨bx, 2, none⟩ (.slice A m cap) := ⟨_, rfl⟩
  have HB2 : Hid (Below W.heap.size W w2) := Lib.hid (by rw [hw2]; exact HB1.out.setCell hbw _)
  have HE2 : Hid (Ew w2 (ten e) (.slice A m cap)) := Lib.hid (by rw [HMM.out]; exact ew_ten (HE.out.under HB2.out))
  have HXS : Hid (w2.cell? ⟨bx, 0, none⟩ = some (.int .u64 e.ts) ∧ w2.cell? ⟨bx, 1, none⟩ = some (.int .u64 e.fst) ∧ w2.cell? ⟨bx, 2, none⟩ = some (.slice A m cap)) := Lib.hid (by rw [hw2]; exact ⟨(HX1.out.put 2 (.slice A m cap)).cell 0, (HX1.out.put 2 (.slice A m cap)).cell 1, (HX1.out.put 2 (.slice A m cap)).cell 2⟩)
  rw [← hw2]
  clear hw2 c0 c1 c2 f2 HX1 HB1 i1 i2 hm hm1 hbw hcap hol
  have HEN := Lib.hid (encode_walk w2 (ten e) _ HE2.out)
  unfold ecells at HEN
  have hn2 := enc_len (ten e)
  have hHX : Hid (w2.cell? ⟨bx, 0, none⟩ = some (.int .u64 e.ts) ∧ w2.cell? ⟨bx, 1, none⟩ = some (.int .u64 e.fst) ∧ w2.cell? ⟨bx, 2, none⟩ = some (.slice A m cap)) := HXS
  by_cases hc : checkE (ten e) = 0
  · have hL : encL (ten e) = encB (ten e) := if_pos hc
    have hdec := dec_enc hc B
    rw [hc] at HEN
    rw [hL] at HEN hn2
    obtain ⟨L, hLL⟩ : ∃ L, L = encB (ten e) := ⟨_, rfl⟩
    rw [← hLL] at HEN hn2 hdec
    obtain ⟨L3, hL3⟩ : ∃ L3, L3 = L ++ B := ⟨_, rfl⟩
    rw [← hL3] at hdec
    obtain ⟨n, hn⟩ : ∃ n, n = L.length := ⟨_, rfl⟩
    have hsz : (⟨L.toArray⟩ : ByteArray).size = n := hn.symm
    rw [← hn] at hdec
    have hadd : ∀ wq : World, Sem.run Try.prog (Op.stringOp BinOp.add ⟨L.toArray⟩ ⟨B.toArray⟩) wq = Result.ok (.string ⟨L3.toArray⟩) wq := fun wq => by
      have := run_string_add_sum (P := Try.prog) (w := wq) ⟨L.toArray⟩ ⟨B.toArray⟩ (by show L.length + B.length ≤ _; omega)
      rw [this, hL3, ByteArray.mk_append_mk]
    have HD := Lib.hid (fun (w3 : World) => decode_walk w3 L3 (by rw [hL3, List.length_append]; omega))
    rw [hdec] at HD
    clear hdec hc hL hLL hn hL3 hn2
    refine HEN.out.mono ?_
    rintro r w3 ⟨rfl, b3⟩
    have HB3 := Lib.hid (HB2.out.trans (b3.mono HB2.out.size))
    have HE3 := Lib.hid (HE2.out.under b3)
    have hlt : bx < w2.heap.size := cell_lt hHX.out.1
    have c0 : w3.cell? ⟨bx, 0, none⟩ = some (.int .u64 e.ts) := (b3.cell (p := ⟨bx, 0, none⟩) hlt).trans hHX.out.1
    have c1 : w3.cell? ⟨bx, 1, none⟩ = some (.int .u64 e.fst) := (b3.cell (p := ⟨bx, 1, none⟩) hlt).trans hHX.out.2.1
    have c2 : w3.cell? ⟨bx, 2, none⟩ = some (.slice A m cap) := (b3.cell (p := ⟨bx, 2, none⟩) hlt).trans hHX.out.2.2
    clear b3 HB2 HE2 HEN hlt
    go_wp2_with fail
    refine (HD.out w3).mono ?_
    rintro r w4 ⟨b4, v4, rfl, hew4⟩
    have HB4 := Lib.hid (HB3.out.trans (b4.mono HB3.out.size))
    have HEA := Lib.hid (HE3.out.under b4)
    have HEB := Lib.hid hew4
    obtain ⟨A4, cap4, hv4, _⟩ := hew4.1.form
    subst hv4
    have hlt3 : bx < w3.heap.size := cell_lt c0
    have d0 : w4.cell? ⟨bx, 0, none⟩ = some (.int .u64 e.ts) := (b4.cell (p := ⟨bx, 0, none⟩) hlt3).trans c0
    have d1 : w4.cell? ⟨bx, 1, none⟩ = some (.int .u64 e.fst) := (b4.cell (p := ⟨bx, 1, none⟩) hlt3).trans c1
    have d2 : w4.cell? ⟨bx, 2, none⟩ = some (.slice A m cap) := (b4.cell (p := ⟨bx, 2, none⟩) hlt3).trans c2
    clear b4 hew4 c0 c1 c2 HB3 HE3 HD
    obtain ⟨g5, eg5⟩ : ∃ g5, g5 = w4.heap.size := ⟨_, rfl⟩
    obtain ⟨w5, hw5⟩ : ∃ w5, w5 = w4.alloc (.cells #[.int .u64 (ten e).ts, .int .u64 (ten e).fst, .slice A4 (ten e).ops.length cap4] 25) := ⟨_, rfl⟩
    have b5 : Below w4.heap.size w4 w5 := by rw [hw5]; exact (Below.refl _ _).alloc (Nat.le_refl _) _
    have HB5 := Lib.hid (HB4.out.trans (b5.mono HB4.out.size))
    have HSM := Lib.hid (same_walk w5 (ten e) _ _ (HEB.out.under b5) (HEA.out.under b5))
    have hlt4 : bx < w4.heap.size := cell_lt d0
    have k0 : (w4.alloc (.cells #[.int .u64 (ten e).ts, .int .u64 (ten e).fst, .slice A4 (ten e).ops.length cap4] 25)).cell? ⟨bx, 0, none⟩ = some (.int .u64 e.ts) := by rw [← hw5]; exact (b5.cell (p := ⟨bx, 0, none⟩) hlt4).trans d0
    have k1 : (w4.alloc (.cells #[.int .u64 (ten e).ts, .int .u64 (ten e).fst, .slice A4 (ten e).ops.length cap4] 25)).cell? ⟨bx, 1, none⟩ = some (.int .u64 e.fst) := by rw [← hw5]; exact (b5.cell (p := ⟨bx, 1, none⟩) hlt4).trans d1
    have k2 : (w4.alloc (.cells #[.int .u64 (ten e).ts, .int .u64 (ten e).fst, .slice A4 (ten e).ops.length cap4] 25)).cell? ⟨bx, 2, none⟩ = some (.slice A m cap) := by rw [← hw5]; exact (b5.cell (p := ⟨bx, 2, none⟩) hlt4).trans d2
    unfold ecells at HSM
    unfold ecells
    clear b5 HB4 HEA HEB hlt4 hlt3
    go_wp2_with fail
    try rw [← hw5]
    refine HSM.out.mono ?_
    rintro r w6 ⟨rfl, b6⟩
    have HB7 := Lib.hid (HB5.out.trans (b6.mono HB5.out.size))
    clear b6 HB5 HSM k0 k1 k2 hw5 eg5 d0 d1 d2
    have HDB := Lib.hid (decode_walk w6 B (by omega))
    have hszB : (⟨B.toArray⟩ : ByteArray).size = B.length := rfl
    rcases hd : decS B with _ | ⟨E2, n2⟩
    · rw [hd] at HDB
      clear hd
      go_wp2_with fail
      refine HDB.out.mono ?_
      rintro r wd ⟨bd, rfl⟩
      have HBd := Lib.hid ((HB7.out).trans (bd.mono (HB7.out).size))
      clear bd
      unfold zE
      go_wp2
      go_ret
      exact ⟨rfl, HBd.out.alloc HBd.out.size _⟩
    · obtain ⟨t1, t2, rr, t3⟩ := enc_dec hd
      rw [hd] at HDB
      have ht4 : encL E2 = encB E2 := if_pos t1
      obtain ⟨L2, hL2⟩ : ∃ L2, L2 = encB E2 := ⟨_, rfl⟩
      rw [← hL2] at t2 t3 ht4
      have hn2 : n2 ≤ B.length := by rw [t2, t3, List.length_append]; omega
      have hex2 : (⟨B.toArray⟩ : ByteArray).extract 0 n2 = ⟨L2.toArray⟩ := by rw [ByteArray.extract_mk, t3, t2]; simp
      have in1 : (0 : Int) ≤ (n2 : Int) := by omega
      have in2 : (n2 : Int) ≤ (B.length : Int) := by omega
      have HE9 := Lib.hid (fun (wq : World) (vq : Value) (h : Ew wq E2 vq) => encode_walk wq E2 vq h)
      rw [t1, ht4] at HE9
      clear hd t1 t2 t3 ht4 hL2 hn2
      go_wp2_with fail
      refine HDB.out.mono ?_
      rintro r wd ⟨bd, vd, rfl, hewd⟩
      have HBd := Lib.hid ((HB7.out).trans (bd.mono (HB7.out).size))
      have HED := Lib.hid hewd
      obtain ⟨Ad, capd, hvd, _⟩ := hewd.1.form
      subst hvd
      clear bd hewd HDB
      obtain ⟨gd, egd⟩ : ∃ gd, gd = wd.heap.size := ⟨_, rfl⟩
      obtain ⟨wf, hwf⟩ : ∃ wf, wf = wd.alloc (.cells #[.int .u64 E2.ts, .int .u64 E2.fst, .slice Ad E2.ops.length capd] 25) := ⟨_, rfl⟩
      have bf : Below wd.heap.size wd wf := by rw [hwf]; exact (Below.refl _ _).alloc (Nat.le_refl _) _
      have HEF := Lib.hid (HED.out.under bf)
      have HBf := Lib.hid (HBd.out.trans (bf.mono HBd.out.size))
      clear bf HED HBd
      have HEN9 := Lib.hid (HE9.out wf _ HEF.out)
      unfold ecells at HEN9
      unfold ecells
      clear HE9
      go_wp2_with fail
      try rw [← hwf]
      refine HEN9.out.mono ?_
      rintro r wg ⟨rfl, bg⟩
      have HBg := Lib.hid (HBf.out.trans (bg.mono HBf.out.size))
      clear bg HEN9 HEF HBf hwf egd
      go_wp2
      go_ret
      exact ⟨rfl, HBg.out⟩
  · have hL : encL (ten e) = [] := if_neg hc
    rw [hL] at HEN
    obtain ⟨c, hcc⟩ : ∃ c, c = checkE (ten e) := ⟨_, rfl⟩
    have HCK := Lib.hid (fun (wq : World) (h : Ew wq (ten e) (.slice A m cap)) => check_walk wq (ten e) _ h)
    unfold ecells at HCK
    rw [← hcc] at HEN hc HCK
    have hcb : (c == 0) = false := beq_eq_false_iff_ne.2 hc
    clear hcc hc hn2 hL
    refine HEN.out.mono ?_
    rintro r w3 ⟨rfl, b3⟩
    have HB3 := Lib.hid (HB2.out.trans (b3.mono HB2.out.size))
    have HE3 := Lib.hid (HE2.out.under b3)
    have hlt : bx < w2.heap.size := cell_lt hHX.out.1
    have c0 : w3.cell? ⟨bx, 0, none⟩ = some (.int .u64 e.ts) := (b3.cell (p := ⟨bx, 0, none⟩) hlt).trans hHX.out.1
    have c1 : w3.cell? ⟨bx, 1, none⟩ = some (.int .u64 e.fst) := (b3.cell (p := ⟨bx, 1, none⟩) hlt).trans hHX.out.2.1
    have c2 : w3.cell? ⟨bx, 2, none⟩ = some (.slice A m cap) := (b3.cell (p := ⟨bx, 2, none⟩) hlt).trans hHX.out.2.2
    clear b3 HB2 HE2 HEN hlt
    go_wp2_with fail
    refine (HCK.out w3 HE3.out).mono ?_
    rintro r w7 ⟨rfl, b7⟩
    have HB7 := Lib.hid (HB3.out.trans (b7.mono HB3.out.size))
    clear b7 HB3 HE3 HCK c0 c1 c2
    have HDB := Lib.hid (decode_walk w7 B (by omega))
    have hszB : (⟨B.toArray⟩ : ByteArray).size = B.length := rfl
    rcases hd : decS B with _ | ⟨E2, n2⟩
    · rw [hd] at HDB
      clear hd
      go_wp2_with fail
      refine HDB.out.mono ?_
      rintro r wd ⟨bd, rfl⟩
      have HBd := Lib.hid ((HB7.out).trans (bd.mono (HB7.out).size))
      clear bd
      unfold zE
      go_wp2
      go_ret
      exact ⟨rfl, HBd.out.alloc HBd.out.size _⟩
    · obtain ⟨t1, t2, rr, t3⟩ := enc_dec hd
      rw [hd] at HDB
      have ht4 : encL E2 = encB E2 := if_pos t1
      obtain ⟨L2, hL2⟩ : ∃ L2, L2 = encB E2 := ⟨_, rfl⟩
      rw [← hL2] at t2 t3 ht4
      have hn2 : n2 ≤ B.length := by rw [t2, t3, List.length_append]; omega
      have hex2 : (⟨B.toArray⟩ : ByteArray).extract 0 n2 = ⟨L2.toArray⟩ := by rw [ByteArray.extract_mk, t3, t2]; simp
      have in1 : (0 : Int) ≤ (n2 : Int) := by omega
      have in2 : (n2 : Int) ≤ (B.length : Int) := by omega
      have HE9 := Lib.hid (fun (wq : World) (vq : Value) (h : Ew wq E2 vq) => encode_walk wq E2 vq h)
      rw [t1, ht4] at HE9
      clear hd t1 t2 t3 ht4 hL2 hn2
      go_wp2_with fail
      refine HDB.out.mono ?_
      rintro r wd ⟨bd, vd, rfl, hewd⟩
      have HBd := Lib.hid ((HB7.out).trans (bd.mono (HB7.out).size))
      have HED := Lib.hid hewd
      obtain ⟨Ad, capd, hvd, _⟩ := hewd.1.form
      subst hvd
      clear bd hewd HDB
      obtain ⟨gd, egd⟩ : ∃ gd, gd = wd.heap.size := ⟨_, rfl⟩
      obtain ⟨wf, hwf⟩ : ∃ wf, wf = wd.alloc (.cells #[.int .u64 E2.ts, .int .u64 E2.fst, .slice Ad E2.ops.length capd] 25) := ⟨_, rfl⟩
      have bf : Below wd.heap.size wd wf := by rw [hwf]; exact (Below.refl _ _).alloc (Nat.le_refl _) _
      have HEF := Lib.hid (HED.out.under bf)
      have HBf := Lib.hid (HBd.out.trans (bf.mono HBd.out.size))
      clear bf HED HBd
      have HEN9 := Lib.hid (HE9.out wf _ HEF.out)
      unfold ecells at HEN9
      unfold ecells
      clear HE9
      go_wp2_with fail
      try rw [← hwf]
      refine HEN9.out.mono ?_
      rintro r wg ⟨rfl, bg⟩
      have HBg := Lib.hid (HBf.out.trans (bg.mono HBf.out.size))
      clear bg HEN9 HEF HBf hwf egd
      go_wp2
      go_ret
      exact ⟨rfl, HBg.out⟩

set_option maxRecDepth 100000 in
theorem lifted (os : Os) (started : os.Started) (H : Type) (enc : TypeId × Value → H) :
    ReturnsInHanded {} Try.checked os 4 .any (Rows.lrecBackSpec.pre6 enc Try.prog Try.f4 Rows.lrecBackRow.domain false) (Rows.lrecBackSpec.post enc Try.prog Try.f4 false true false false) := by
  refine returnsInHanded_of_change (C := Try.checked) own started (by kernel_rfl) Try.func4
    (ChangeSpec.witness6 (enc := enc) (C := Try.checked) false ⟨#[], #[.agg #[.int .u64 0, .int .u64 0, .slice none 0 0], .string ⟨#[]⟩], []⟩ 8 (by kernel_rfl) (by kernel_rfl) (by kernel_rfl) (by kernel_rfl)) ?_
  intro W base args ds gs before hval0 hW hcnd _
  have hval : ∀ (j : Nat) t v, Try.f4.params[j]? = some t → args[j]? = some v → Value.okWide Try.prog W .any base t v := hval0
  have hW' := hW
  obtain ⟨p, q, hA0, hV, rfl, hfz, hnd⟩ := hW
  have hA : DataW.TrodAll enc Try.prog W 0 (fun _ => true) true Try.f4.params.toList args.toList ds p := hA0
  rw [Try.params4] at hA hval
  obtain ⟨v0, vs0, d0, ds0, p0, q0, hargs, rfl, rfl, h0, r0⟩ := trodAll_cons hA
  obtain ⟨v1, vs1, d1, ds1, p1, q1, rfl, rfl, rfl, h1, r1⟩ := trodAll_cons r0
  obtain ⟨rfl, rfl, rfl⟩ := trodAll_nil r1
  obtain rfl : args = #[v0, v1] := by cases args; simp_all
  obtain ⟨rfl, rfl⟩ := trodVars_none hV
  obtain ⟨s1, rfl, rfl, rfl, ws1⟩ := Go.ChangeMaps.open_string Try.underlying9 (hval 1 9 v1 rfl rfl) h1
  have hsz1 : s1.data.toList.length ≤ 9223372036854775807 := by rw [Array.length_toList]; exact ws1
  obtain ⟨e0, vo0, rfl, hE0⟩ := open_entry (hval 0 25 v0 rfl rfl) h0
  clear hA0 hval0
  have hc := walk W e0 vo0 hE0 s1.data.toList hsz1
  try simp only [Array.toArray_toList] at hc
  refine hc.mono fun e W' ⟨he, hg⟩ => ?_
  subst he
  exact ⟨_, rfl, law_post rfl (by decide +kernel) (by kernel_rfl) rfl hW' hg⟩

theorem over : Rows.lrecBackRow.holds Try.pinned (OpenSpec.ofChange Rows.lrecBackSpec) :=
  OpenClaim.holds_of_wide 4 Try.f4 rfl rfl rfl rfl rfl rfl rfl ⟨rfl, rfl, rfl, rfl, rfl⟩ rfl rfl rfl rfl rfl (by kernel_rfl) Try.func4 (by kernel_rfl)
    (of_decide_eq_true (by kernel_rfl)) (by unfold Func.isWrapper; first | (rw [if_pos (by decide +kernel)]; kernel_rfl) | (rw [if_neg (by decide +kernel)]; exact ⟨rfl, rfl⟩))
    (fun os started H enc _ => lifted os started H enc)

theorem proved : Rows.LrecBackSaid :=
  over
#print axioms proved
end LrecBack
end Go.Proofs.Ytkhdidhpcdlmcab
