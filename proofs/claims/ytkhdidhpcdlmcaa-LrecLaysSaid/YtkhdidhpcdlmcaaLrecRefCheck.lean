/- The document's own Check. -/
import Derived.Test.YtkhdidhpcdlmcaaLrecRef
import Derived.BigQuiet
import Derived.Deep.QuietTactic
import Derived.Deep.DeepCutAuto
import Derived.Deep.RegionWith
namespace Go.Proofs.Ytkhdidhpcdlmcaa
set_option maxRecDepth 100000
open Go.RowKit Go.Lib MM MS DE LM LQ LC LA LF
namespace LG
def opBad (f i : Nat) (x : Ro) : Bool := !decide (mayO x = 0) || !stampB x.lsn || decide (1099511627776 < f) || !decide (x.lsn = (f + i) % 18446744073709551616)
def badsO (f : Nat) : Nat → List (List UInt8) → List Ro → Bool
  | _, _, [] => false
  | i, seen, x :: r => (opBad f i x || decide (x.key ∈ seen)) || badsO f (i + 1) (seen ++ [x.key]) r
theorem bads_is (f : Nat) (hf : f ≤ 1099511627776) : ∀ (l : List Ro) (i : Nat) (seen : List (List UInt8)), i + l.length ≤ 100 → someO 3 l = false → badsO f i seen l = (someO 2 l || twiceO seen l || !rowO (f + i) l)
  | [], _, _, _, _ => rfl
  | x :: r, i, seen, hi, h3 => by
    simp only [List.length_cons] at hi
    simp only [someO, Bool.or_eq_false_iff, beq_eq_false_iff_ne] at h3
    have ih := bads_is f hf r (i + 1) (seen ++ [x.key]) (by omega) h3.2
    have hm : (f + i) % 18446744073709551616 = f + i := Nat.mod_eq_of_lt (by omega)
    simp only [badsO, someO, twiceO, rowO, opBad, ih, hm, show f + (i + 1) = f + i + 1 by omega]
    have hd : decide (1099511627776 < f) = false := decide_eq_false (by omega)
    rw [hd]
    rcases mayO_cases x with h | h | h
    · simp only [h]
      by_cases hk : x.key ∈ seen <;> by_cases hl : x.lsn = f + i <;> cases stampB x.lsn <;> cases someO 2 r <;> cases twiceO (seen ++ [x.key]) r <;> cases rowO (f + i + 1) r <;> simp [hk, hl]
    · simp [h]
    · exact absurd h h3.1
def initB (e : En) : Bool := (decide (e.ops.length = 0) || !stampB e.ts) || !stampB e.fst
def twoIf (b : Bool) : Int := if b then 2 else 0
theorem check_is (e : En) (h6 : e.ops.length ≤ 6) (h3 : someO 3 e.ops = false) : checkE e = twoIf (initB e || badsO e.fst 0 [] e.ops) := by
  unfold checkE twoIf initB
  rw [if_neg (by rw [h3]; simp; omega)]
  cases ht : stampB e.ts with
  | false => simp
  | true =>
    cases hf : stampB e.fst with
    | false => simp
    | true =>
      have hb := bads_is e.fst (stamp_le hf).2 e.ops 0 [] (by omega) h3
      rw [hb, Nat.add_zero]
      rw [if_neg (by simp)]
      by_cases h0 : e.ops = []
      · simp [h0]
      · have h0' : e.ops.length ≠ 0 := fun h => h0 (List.eq_nil_of_length_eq_zero h)
        cases someO 2 e.ops <;> cases twiceO [] e.ops <;> cases rowO e.fst e.ops <;> simp [h0, h0']
def keysTo (l : List Ro) (j : Nat) : List (List UInt8) := (l.take j).map Ro.key
theorem key_snoc {l : List Ro} {j : Nat} (hj : j < l.length) : keysTo l (j + 1) = keysTo l j ++ [l[j].key] := by
  unfold keysTo
  rw [List.take_add_one, List.map_append, List.getElem?_eq_getElem hj]
  rfl
theorem wrap_fk (f k : Nat) : IntKind.u64.wrap ((f : Int) + (k : Int)) = (((f + k) % 18446744073709551616 : Nat) : Int) := by unfold IntKind.wrap; simp [IntKind.bits, IntKind.signed]
theorem out_more {o : Bool} {k1 k2 : List UInt8} {ks : List (List UInt8)} (h : k1 = k2) : twoIf (o || decide (k2 ∈ ks ++ [k1])) = 2 := by
  subst h
  simp [twoIf]
theorem out_same {o : Bool} {k1 k2 : List UInt8} {ks : List (List UInt8)} (h : k1 ≠ k2) : twoIf (o || decide (k2 ∈ ks ++ [k1])) = twoIf (o || decide (k2 ∈ ks)) := by
  simp [show ¬ k2 = k1 from fun e => h e.symm]
set_option maxHeartbeats 16000000 in
theorem refCheck_walk (w : World) (e : En) (v : Value) (hE : Ew w e v) : Calls Try.prog 34 #[.agg (ecells e v).toArray] w fun r w' => r = .returned (.int .i64 (checkE e)) ∧ Below w.heap.size w w' := by
  obtain ⟨hL, u1, u2⟩ := hE
  obtain ⟨A, cap, rfl, hol⟩ := hL.form
  obtain ⟨gb, egb⟩ : ∃ gb, gb = w.heap.size := ⟨_, rfl⟩
  obtain ⟨w1, hw1⟩ : ∃ w1, w1 = w.alloc (.cells (ecells e (.slice A e.ops.length cap)).toArray 60) := ⟨_, rfl⟩
  have b1 : Below w.heap.size w w1 := by rw [hw1]; exact (Below.refl _ _).alloc (Nat.le_refl _) _
  have x1 : Has w1 gb 60 (ecells e (.slice A e.ops.length cap)) := by rw [hw1, egb]; exact heap_alloc_new _ _
  have HL := Lib.hid hL
  have HB1 := Lib.hid b1
  have HX1 := Lib.hid x1
  have c0 : w1.cell? ⟨gb, 0, none⟩ = some (.int .u64 e.ts) := x1.cell 0
  have c1 : w1.cell? ⟨gb, 1, none⟩ = some (.int .u64 e.fst) := x1.cell 1
  have c2 : w1.cell? ⟨gb, 2, none⟩ = some (.slice A e.ops.length cap) := x1.cell 2
  have HS1 := Lib.hid (fun wq => refStamp_walk wq e.ts u1)
  have HS2 := Lib.hid (fun wq => refStamp_walk wq e.fst u2)
  unfold ecells at hw1 HX1 ⊢
  clear hL b1 x1 u1
  by_cases h6 : 6 < e.ops.length
  · have hc : checkE e = 3 := by unfold checkE; rw [if_pos (Or.inl h6)]
    rw [hc]
    have d6 : decide ((6 : Int) < (e.ops.length : Int)) = true := decide_eq_true (by omega)
    go_enter Try.func34, Try.ntmps34
    go_wp2
    go_ret
    rw [← hw1]
    exact ⟨rfl, HB1.out⟩
  · have d6 : decide ((6 : Int) < (e.ops.length : Int)) = false := decide_eq_false (by omega)
    obtain ⟨ini, hini⟩ : ∃ ini, ini = initB e := ⟨_, rfl⟩
    have HCI := Lib.hid (fun h3 => check_is e (by omega) h3)
    rw [← hini] at HCI
    have HI := Lib.hid hini
    have hol6 : e.ops.length ≤ 6 := by omega
    clear hini h6
    go_enter Try.func34, Try.ntmps34
    go_upto_region 4 with (fail)
    rw [← hw1]
    rw [← egb]
    clear hw1 egb
    go_cut [27] (fun t wx => t = .bool ini ∧ wx = w1)
    case first =>
      by_cases h0 : e.ops.length = 0
      · have d0 : (e.ops.length == 0) = true := beq_iff_eq.2 h0
        have hi : ini = true := by rw [HI.out]; unfold initB; simp [h0]
        rw [h0] at c2
        clear d6 hol hol6 HCI HL
        go_wp2
        go_meet
        exact ⟨by rw [hi], rfl⟩
      · have d0 : (e.ops.length == 0) = false := beq_eq_false_iff_ne.2 h0
        have d0' : ((e.ops.length : Int) == 0) = false := beq_eq_false_iff_ne.2 (by omega)
        cases ht : stampB e.ts with
        | false =>
          have hi : ini = true := by rw [HI.out]; unfold initB; simp [ht]
          rw [ht] at HS1
          go_wp2_with (go_at_call 90; refine (HS1.out _).mono ?_; rintro r wq ⟨rfl, rfl⟩)
          go_meet
          exact ⟨by rw [hi], rfl⟩
        | true =>
          have hi : ini = !stampB e.fst := by rw [HI.out]; unfold initB; simp [ht, h0]
          rw [ht] at HS1
          go_wp2_with fail
          refine (HS1.out _).mono ?_
          rintro r wq ⟨rfl, rfl⟩
          go_wp2_with fail
          refine (HS2.out _).mono ?_
          rintro r wq ⟨rfl, rfl⟩
          go_wp2
          go_meet
          exact ⟨by rw [hi], rfl⟩
    case rest =>
      obtain ⟨rfl, rfl⟩ := hcut
      have HX1 := Lib.hid (show Has wc gb 60 [.int .u64 e.ts, .int .u64 e.fst, .slice A e.ops.length cap] from HX1.out)
      clear c0 c1 c2 HS1 HS2 d6
      obtain ⟨o0, ho0⟩ : ∃ o0, o0 = ini := ⟨_, rfl⟩
      have HO0 := Lib.hid ho0
      rw [← ho0]
      clear ho0
      cases o0
      all_goals
        go_wp2
        go_loopw [3, 4] (fun ov iv wr => ∃ (k : Nat) (o : Bool), k ≤ e.ops.length ∧ iv = .int .i64 k ∧ ov = .int .i64 (twoIf o) ∧ Hid ((o || badsO e.fst k (keysTo e.ops k) (e.ops.drop k)) = (ini || badsO e.fst 0 [] e.ops)) ∧ Hid (someO 3 (e.ops.drop k) = someO 3 e.ops) ∧ Hid (Has wr gb 60 [.int .u64 e.ts, .int .u64 e.fst, .slice A e.ops.length cap]) ∧ Hid (Below w.heap.size w wr)) (fun _ i _ => e.ops.length - (RowKit.intOf i).toNat)
        case atStart => exact ⟨0, ini, Nat.zero_le _, rfl, by rw [← HO0.out]; rfl, Lib.hid rfl, Lib.hid rfl, HX1, HB1⟩
        case round =>
          obtain ⟨k, o, hk, rfl, rfl, HK, H3, HX, HB⟩ := hrel
          clear HX1 HB1
          have p0 : wr.cell? ⟨gb, 0, none⟩ = some (.int .u64 e.ts) := HX.out.cell 0
          have p1 : wr.cell? ⟨gb, 1, none⟩ = some (.int .u64 e.fst) := HX.out.cell 1
          have p2 : wr.cell? ⟨gb, 2, none⟩ = some (.slice A e.ops.length cap) := HX.out.cell 2
          rcases Nat.lt_or_ge k e.ops.length with hk1 | hk1
          · obtain ⟨b, off, x, rfl, hd, hx, hx1, hx2, hx3, c0, c1, c2, c3⟩ := ops_get HL.out HB.out k hk1
            have HM := Lib.hid (fun wq => refMay_walk wq x)
            unfold ocells at HM
            have HS := Lib.hid (fun wq => refStamp_walk wq x.lsn hx2)
            have HD := Lib.hid hd
            have HXE := Lib.hid hx
            have e1 := next64 hk1 hol
            have e2 : IntKind.u64.wrap (k : Int) = (k : Int) := by unfold IntKind.wrap; simp [IntKind.bits, IntKind.signed]; omega
            have e3 := wrap_fk e.fst k
            obtain ⟨mk, hmk⟩ : ∃ mk, mk = (e.fst + k) % 18446744073709551616 := ⟨_, rfl⟩
            rw [← hmk] at e3
            have HMK := Lib.hid hmk
            obtain ⟨gx, egx⟩ : ∃ gx, gx = wr.heap.size := ⟨_, rfl⟩
            obtain ⟨w2, hw2⟩ : ∃ w2, w2 = wr.alloc (.cells #[.string ⟨x.key.toArray⟩, .int .u64 x.lsn, .bool x.del, .string ⟨x.val.toArray⟩] 57) := ⟨_, rfl⟩
            have b2 : Below wr.heap.size wr w2 := by rw [hw2]; exact (Below.refl _ _).alloc (Nat.le_refl _) _
            have HX2 := Lib.hid (HX.out.under b2 HX.out.lt)
            have HB2 := Lib.hid (HB.out.trans (b2.mono HB.out.size))
            have HY2 : Hid (Has w2 gx 57 (ocells x)) := Lib.hid (by rw [hw2, egx]; exact heap_alloc_new _ _)
            clear b2 hd hx hx1 hx2 hx3 hmk HX HB
            go_wp2_with fail
            rw [← hw2]
            rw [← egx]
            clear hw2 egx c0 c1 c2 c3 p0 p1 p2
            refine (HM.out _).mono ?_
            rintro r w3 ⟨rfl, b3⟩
            have HX3 := Lib.hid (HX2.out.under b3 HX2.out.lt)
            have HY3 := Lib.hid (HY2.out.under b3 HY2.out.lt)
            have HB3 := Lib.hid (HB2.out.trans (b3.mono HB2.out.size))
            clear b3 HX2 HY2 HB2 HM
            by_cases hm3 : mayO x = 3
            · have hc : checkE e = 3 := by
                have : someO 3 e.ops = true := by
                  rw [← H3.out, HD.out]
                  simp [someO, hm3]
                unfold checkE
                rw [if_pos (Or.inr this)]
              rw [hm3]
              clear hm3
              go_wp2
              go_ret
              rw [hc]
              exact ⟨rfl, HB3.out⟩
            · have hb3 : (mayO x == 3) = false := beq_eq_false_iff_ne.2 hm3
              have HM3 := Lib.hid hm3
              have p1 : w3.cell? ⟨gb, 1, none⟩ = some (.int .u64 e.fst) := HX3.out.cell 1
              have y1 : w3.cell? ⟨gx, 1, none⟩ = some (.int .u64 x.lsn) := HY3.out.cell 1
              obtain ⟨mm, hmm⟩ : ∃ mm, mm = mayO x := ⟨_, rfl⟩
              rw [← hmm] at hb3 ⊢
              have HMM := Lib.hid hmm
              clear hm3 hmm
              go_upto_region 13 with (fail)
              go_cut [67] from 28 to 81 (fun t wx => t = .bool (opBad e.fst k x) ∧ wx = w3)
              case first =>
                by_cases hz : mm = 0
                · subst hz
                  cases hst : stampB x.lsn with
                  | false =>
                    rw [hst] at HS
                    go_wp2_with (go_at_call 90; refine (HS.out _).mono ?_; rintro r wq ⟨rfl, rfl⟩)
                    go_meet
                    exact ⟨by unfold opBad; rw [← HMM.out, ← HMK.out, hst]; simp, rfl⟩
                  | true =>
                    rw [hst] at HS
                    by_cases hmx : 1099511627776 < e.fst
                    · have dx : decide ((1099511627776 : Int) < (e.fst : Int)) = true := decide_eq_true (by omega)
                      go_wp2_with (go_at_call 90; refine (HS.out _).mono ?_; rintro r wq ⟨rfl, rfl⟩)
                      go_meet
                      exact ⟨by unfold opBad; rw [← HMM.out, ← HMK.out]; simp [hmx, hst], rfl⟩
                    · have dx : decide ((1099511627776 : Int) < (e.fst : Int)) = false := decide_eq_false (by omega)
                      by_cases hls : x.lsn = mk
                      · have h1 : (x.lsn == mk) = true := beq_iff_eq.2 hls
                        have h2 : ((x.lsn : Int) == (mk : Int)) = true := beq_iff_eq.2 (by omega)
                        have HLS := Lib.hid hls
                        clear hls
                        go_wp2_with (go_at_call 90; refine (HS.out _).mono ?_; rintro r wq ⟨rfl, rfl⟩)
                        go_meet
                        exact ⟨by unfold opBad; rw [← HMM.out, ← HMK.out]; rw [decide_eq_true HLS.out, hst, decide_eq_false hmx]; simp [HLS.out], rfl⟩
                      · have h1 : (x.lsn == mk) = false := beq_eq_false_iff_ne.2 hls
                        have h2 : ((x.lsn : Int) == (mk : Int)) = false := beq_eq_false_iff_ne.2 (by omega)
                        have HLS := Lib.hid hls
                        clear hls
                        go_wp2_with (go_at_call 90; refine (HS.out _).mono ?_; rintro r wq ⟨rfl, rfl⟩)
                        go_meet
                        exact ⟨by unfold opBad; rw [← HMM.out, ← HMK.out]; rw [decide_eq_false HLS.out, hst, decide_eq_false hmx]; simp [show ¬ (x.lsn : Int) = (mk : Int) from fun h => HLS.out (by omega)], rfl⟩
                · have h1 : (mm == 0) = false := beq_eq_false_iff_ne.2 hz
                  go_wp2
                  go_meet
                  exact ⟨by unfold opBad; rw [← HMM.out, ← HMK.out]; simp [hz], rfl⟩
              case rest =>
                obtain ⟨rfl, rfl⟩ := hcut
                have HXc := Lib.hid (show Has wc gb 60 [.int .u64 e.ts, .int .u64 e.fst, .slice (some ⟨b, off, none⟩) e.ops.length cap] from HX3.out)
                have HYc := Lib.hid (show Has wc gx 57 (ocells x) from HY3.out)
                have HBc := Lib.hid (show Below w.heap.size w wc from HB3.out)
                clear p1 y1 HX3 HY3 HB3 HS HMM hb3 e2 e3
                obtain ⟨ob, hob⟩ : ∃ ob, ob = opBad e.fst k x := ⟨_, rfl⟩
                have HOB := Lib.hid hob
                rw [← hob]
                clear hob
                obtain ⟨oc, hoc⟩ : ∃ oc, oc = ob := ⟨_, rfl⟩
                have HOC := Lib.hid hoc
                rw [← hoc]
                clear hoc
                cases oc
                all_goals
                  go_wp2
                  go_loopw [3, 7] (fun ov jv wq => ∃ j : Nat, j ≤ k ∧ jv = .int .i64 j ∧ ov = .int .i64 (twoIf ((o || ob) || decide (x.key ∈ keysTo e.ops j))) ∧ Hid (Has wq gb 60 [.int .u64 e.ts, .int .u64 e.fst, .slice (some ⟨b, off, none⟩) e.ops.length cap]) ∧ Hid (Has wq gx 57 (ocells x)) ∧ Hid (Below w.heap.size w wq)) (fun _ i _ => k - (RowKit.intOf i).toNat)
                  case atStart => exact ⟨0, Nat.zero_le _, rfl, by rw [← HOC.out]; simp [twoIf, keysTo], HXc, HYc, HBc⟩
                  case round =>
                    obtain ⟨j, hj, rfl, rfl, HXq, HYq, HBq⟩ := hrel
                    clear HXc HYc HBc
                    have p2 : wr.cell? ⟨gb, 2, none⟩ = some (.slice (some ⟨b, off, none⟩) e.ops.length cap) := HXq.out.cell 2
                    have z0 : wr.cell? ⟨gx, 0, none⟩ = some (.string ⟨x.key.toArray⟩) := HYq.out.cell 0
                    rcases Nat.lt_or_ge j k with hj1 | hj1
                    · obtain ⟨b', off', y, e', hdy, hy, _, _, _, d0, _, _, _⟩ := ops_get HL.out HBq.out j (by omega)
                      injection e' with e'
                      injection e' with e1' e2'
                      subst e1' e2'
                      have hsn := key_snoc (l := e.ops) (j := j) (by omega)
                      rw [hy] at hsn
                      have HSN := Lib.hid hsn
                      have e9 := next64 hj1 (by omega)
                      have i1 : (0 : Int) ≤ (j : Int) := by omega
                      have i2 : (j : Int) < (e.ops.length : Int) := by omega
                      clear hdy hy hsn
                      by_cases hyk : y.key = x.key
                      · have hb : (y.key == x.key) = true := beq_iff_eq.2 hyk
                        have HYK := Lib.hid hyk
                        clear hyk
                        go_wp2_with fail
                        go_quiet (fail)
                        go_wp2
                        go_roundw
                        case rel => exact ⟨j + 1, by omega, by go_num, by rw [HSN.out, out_more HYK.out], Lib.hid (HXq.out.draws _), Lib.hid (HYq.out.draws _), Lib.hid ⟨HBq.out.os, HBq.out.tape, HBq.out.output, HBq.out.size, HBq.out.block⟩⟩
                        case measure => simp [RowKit.intOf]; omega
                      · have hb : (y.key == x.key) = false := beq_eq_false_iff_ne.2 hyk
                        have HYK := Lib.hid hyk
                        clear hyk
                        go_wp2_with fail
                        go_quiet (fail)
                        go_wp2
                        go_roundw
                        case rel => exact ⟨j + 1, by omega, by go_num, by rw [HSN.out, out_same HYK.out], Lib.hid (HXq.out.draws _), Lib.hid (HYq.out.draws _), Lib.hid ⟨HBq.out.os, HBq.out.tape, HBq.out.output, HBq.out.size, HBq.out.block⟩⟩
                        case measure => simp [RowKit.intOf]; omega
                    · obtain rfl : j = k := by omega
                      have hsn := key_snoc (l := e.ops) (j := j) hk1
                      rw [HXE.out] at hsn
                      have HNX : Hid ((((o || ob) || decide (x.key ∈ keysTo e.ops j)) || badsO e.fst (j + 1) (keysTo e.ops (j + 1)) (e.ops.drop (j + 1))) = (ini || badsO e.fst 0 [] e.ops)) := Lib.hid (by
                        rw [← HK.out, HD.out, hsn, HOB.out]
                        simp only [badsO, Bool.or_assoc])
                      have HN3 : Hid (someO 3 (e.ops.drop (j + 1)) = someO 3 e.ops) := Lib.hid (by
                        rw [← H3.out, HD.out]
                        have := HM3.out
                        simp [someO, this])
                      clear hsn p2 z0
                      go_wp2
                      go_roundw
                      case rel => exact ⟨j + 1, _, hk1, by go_num, rfl, HNX, HN3, HXq, HBq⟩
                      case measure => simp [RowKit.intOf]; omega
          · obtain rfl : k = e.ops.length := by omega
            have h3 : someO 3 e.ops = false := by rw [← H3.out, List.drop_length]; rfl
            have hc : checkE e = twoIf o := by
              rw [HCI.out h3, ← HK.out, List.drop_length]
              simp [badsO]
            have HBB := Lib.hid HB.out
            have HCC := Lib.hid hc
            clear HK H3 HX HB h3 hc HCI HI HL
            go_wp2
            go_ret
            exact ⟨by rw [HCC.out]; rfl, HBB.out⟩
end LG
end Go.Proofs.Ytkhdidhpcdlmcaa
