/- Wherever the power goes in a Set, and in as many openings as one likes behind it, the twin says what it said ahead of it, or the new text, all of it: of all tries. No condition. -/
import Derived.Test.YtjdkmafbogaboaaTwinLaw
import Derived.Test.YtjdkmafbogaboaaTwinSafe
import Derived.Test.YtjdkmafbogaboaaTwinArgs
namespace Go.Proofs.Ytjdkmafbogaboaa
open Go.ChangeShapes Go.WideShapes Go.ChangeAt Go.RowKit Go.Lib MM MB MF DM DK TM FL TH DN DW DF DU MS DC MY DP TD TN TS TO TT TU TP TL LK DE TA TQ
namespace TwinKeeps
theorem read_D {F : List (List UInt8)} (h : Four F) {q : Nat} (hq : q < 4) (f : Nat) : refuse (D F f) (q : Int) = 0 ∧ readT (D F f) (q : Int) = F.getD q [] := by
  have hr : refuse (D F f) (q : Int) = 0 := refuse_D h hq
  refine ⟨hr, ?_⟩
  unfold readT
  rw [hr]
  rfl
set_option maxRecDepth 100000 in
set_option maxHeartbeats 2000000 in
theorem even_walk {w0 w : World} {g : Nat} {F : List (List UInt8)} {Ps : List (World → List Nat → Prop)} (hA : All w0 w (Di w0.heap.size g (D F 0) :: Ps)) (hF : Four F) (h1 : alike (F.getD 1 [])) (h2 : alike (F.getD 2 [])) :
    Calls Try.prog 31 #[.pointer (some ⟨g, 0, none⟩)] w fun e w' => e = .returned (.bool true) ∧ Below w.heap.size w w' := by
  go_enter Try.func31, Try.ntmps31
  go_wp2
  go_loopw [3] (fun i wr => ∃ k : Nat, 1 ≤ k ∧ k ≤ 3 ∧ i = .int .i64 k ∧ Below w.heap.size w wr) (fun i _ => 3 - (RowKit.intOf i).toNat)
  case atStart => exact ⟨1, by omega, by omega, rfl, Below.refl _ _⟩
  case round =>
    obtain ⟨k, hk1, hk3, rfl, hb⟩ := hrel
    by_cases hlt : k < 3
    · have hAr := hA.below hb
      obtain ⟨q1, q2⟩ := read_D hF (q := k) (by omega) 0
      have hl := hF.row (q := k) (by omega)
      have ha : alike (F.getD k []) := by
        have : k = 1 ∨ k = 2 := by omega
        rcases this with rfl | rfl
        · exact h1
        · exact h2
      have HR := Lib.hid (di_read hAr (k : Int))
      rw [q1, q2] at HR
      generalize F.getD k [] = s at *
      have hx1 : (⟨s.toArray⟩ : ByteArray).extract 0 64 = ⟨(s.take 64).toArray⟩ := by rw [ByteArray.extract_mk]; simp
      have hx2 := cut_text s hl
      have hne : (s.take 64 == s.drop 64) = true := beq_iff_eq.2 ha
      generalize s.take 64 = sa at *
      generalize s.drop 64 = sb at *
      have hbd : Below w.heap.size w wr.drew := ⟨hb.os, hb.tape, hb.output, hb.size, hb.block⟩
      clear ha q1 q2
      go_wp2_with fail
      refine HR.out.mono ?_
      rintro e w2 ⟨rfl, rfl⟩
      go_wp2_with fail
      go_region
      all_goals
        go_wp2
        exact ⟨⟨k + 1, by omega, by omega, by go_num, hbd⟩, by simp [RowKit.intOf]; omega⟩
    · go_wp2
      go_ret
      exact ⟨rfl, hb⟩
theorem few_D (F : List (List UInt8)) (f : Nat) : (D F f).un.length < 999999990 := by show 0 < 999999990; omega
set_option maxRecDepth 100000 in
set_option maxHeartbeats 4000000 in
theorem opened_walk {w0 w : World} {g : Nat} {F : List (List UInt8)} {Ps : List (World → List Nat → Prop)} (hA : All w0 w (Di w0.heap.size g (D F 0) :: Ps)) {n : Nat} {t u X : List UInt8} {ok : Prop} (hM : Mid F n t u X ok) (hn : n < 200) (v : Value) (opens : List (List UInt8)) (hL : Lst w0 1 QB v opens) :
    Calls Try.prog 30 #[.pointer (some ⟨g, 0, none⟩), v] w fun e w' => ∃ gt F' n' t', e = .returned (.pointer (some ⟨gt, 0, none⟩)) ∧ All w0 w' (Ti w0.heap.size gt g 1 (half n' t') false :: Di w0.heap.size g (D F' 0) :: Ps) ∧ Inv F' n' t' ∧ ((n' = n ∧ t' = t) ∨ (n' = n + 1 ∧ t' = u)) ∧ (ok → n' = n + 1) := by
  obtain ⟨A, cap, rfl, hol⟩ := hL.form
  go_enter Try.func30, Try.ntmps30
  go_wp2
  go_loopw [5] (fun i wr => ∃ (k : Nat) (F' : List (List UInt8)), k ≤ opens.length ∧ i = .int .i64 k ∧ Mid F' n t u X ok ∧ All w0 wr (Di w0.heap.size g (D F' 0) :: Ps)) (fun i _ => opens.length - (RowKit.intOf i).toNat)
  case atStart => exact ⟨0, F, by omega, rfl, hM, hA⟩
  case round =>
    obtain ⟨k, F', hk, rfl, hM', hA'⟩ := hrel
    by_cases hlt : k < opens.length ∧ k < 5
    · obtain ⟨hk1, hk5⟩ := hlt
      obtain ⟨b, off, cap', cs, e, hcl, ⟨vk, rfl, hsrc⟩, hcell⟩ := (hL.under qb_firm hA'.under).get k hk1
      obtain ⟨b', off', cap'', cs0, e0, hcl0, ⟨vk0, rfl, hsrc0⟩, hcell0⟩ := hL.get k hk1
      injection e with e1 e2 e3
      subst e1 e3
      injection e0 with e1 e2 e3
      injection e1 with e1
      injection e1 with e1 e4
      subst e1 e4 e3
      have hc := hcell 0 (by omega)
      have hc0 := hcell0 0 (by omega)
      have hvv : vk = vk0 := by
        have hlt0 : b < w0.heap.size := cell_lt hc0
        have := (hA'.under.cell (p := ⟨b, off + k * 1 + 0, none⟩) hlt0).symm.trans hc
        rw [hc0] at this
        simpa using this.symm
      subst hvv
      have hlt0 : b < w0.heap.size := cell_lt hc0
      have hcw0 : w0.cell? ⟨b, off + k, none⟩ = some vk := by simpa using hc0
      simp only [Nat.mul_one, Nat.add_zero, List.getElem?_cons_zero] at hc
      have hsl := src_len hsrc
      rcases hsrc with ⟨h0, p0, cp, rfl⟩ | ⟨h0, bb, oo, cc, rfl, s1, s2, s3, s4⟩
      · go_wp2
        go_roundw
        case rel => exact ⟨k + 1, F', by omega, by go_num, hM', hA'⟩
        case measure => simp [RowKit.intOf]; omega
      · have hcb := s4 0 h0
        rw [Nat.add_zero] at hcb
        generalize opens[k] = l at *
        have hl0 : ((l.length : Int) == 0) = false := beq_eq_false_iff_ne.2 (by omega)
        have hlp : (0 : Int) < l.length := by omega
        have hb0 := (l[0]).toNat_lt
        generalize (l[0]).toNat = c at *
        have htm : (c : Int).tmod 4 = ((c % 4 : Nat) : Int) := by rw [Int.tmod_eq_emod_of_nonneg (by omega)]; omega
        have hc4 : c % 4 < 4 := Nat.mod_lt _ (by omega)
        obtain ⟨F2, e2, hM2, hf2⟩ := open_mid (f := 1 + c % 4) hM' l
        have hArm := Lib.hid (di_arm hA' (1 + ((c % 4 : Nat) : Int)) (by omega))
        have harmS : ({ D F' 0 with fuse := (1 + ((c % 4 : Nat) : Int)).toNat } : St) = D F' (1 + c % 4) := by
          unfold D
          congr 1
        rw [harmS] at hArm
        have HE2 := Lib.hid e2
        generalize c % 4 = d at *
        clear harmS e2 hcell hcell0 s4 hf2
        go_wp2_with fail
        refine hArm.out.mono ?_
        rintro e w2 ⟨rfl, a2⟩
        have hfew := few_D F' (1 + d)
        have HO2 := Lib.hid (show Calls Try.prog 11 #[.pointer (some ⟨g, 0, none⟩), .int .i64 1] w2 fun e w' => ∃ v, e = .returned (.tuple #[v, .int .i64 (openE (D F' (1 + d)) 1)]) ∧ All w0 w' (Di w0.heap.size g (openS (D F' (1 + d)) 1) :: Ps) from (ti_open a2 1 hfew).mono fun e w' ⟨v, he, h⟩ => ⟨v, he, by
          rcases h with ⟨_, _, h⟩ | ⟨_, gt, _, h⟩
          · exact h
          · exact h.tail⟩)
        go_wp2_with fail
        refine HO2.out.mono ?_
        rintro e w3 ⟨v3, rfl, a3⟩
        go_wp2_with fail
        refine (di_off a3).mono ?_
        rintro e w4 ⟨rfl, a4⟩
        have hc4 : w4.cell? ⟨b, off + k, none⟩ = some (.slice (some ⟨bb, oo, none⟩) l.length cc) := (a4.under.cell (p := ⟨b, off + k, none⟩) hlt0).trans hcw0
        go_wp2_with fail
        refine (di_wake_old a4 _ l hsl hsrc0).mono ?_
        rintro e w5 ⟨rfl, a5⟩
        replace a5 : All w0 w5 (Di w0.heap.size g (wakeS (TQ.off (openS (D F' (1 + d)) 1)) l) :: Ps) := a5
        rw [HE2.out] at a5
        go_wp2
        go_roundw
        case rel => exact ⟨k + 1, F2, by omega, by go_num, hM2, a5⟩
        case measure => simp [RowKit.intOf]; omega
    · rcases Nat.lt_or_ge k opens.length with hk1 | hk1
      · have hk5 : 5 ≤ k := by omega
        clear hlt
        go_wp2_with fail
        refine (di_arm hA' 0 (by omega)).mono ?_
        rintro e w2 ⟨rfl, a2⟩
        replace a2 : All w0 w2 (Di w0.heap.size g (D F' 0) :: Ps) := a2
        obtain ⟨z1, F2, n', t', z2, z3, z4, z5, z6⟩ := end_mid hM' hn
        have Z2 := Lib.hid z2
        have Z3 := Lib.hid z3
        go_wp2_with fail
        refine (ti_open a2 1 (few_D F' 0)).mono ?_
        rintro e w3 ⟨v3, rfl, h3⟩
        rw [z1]
        rcases h3 with ⟨h, _⟩ | ⟨_, gt, rfl, a3⟩
        · exact absurd z1 h
        rw [Z2.out, Z3.out] at a3
        go_wp2
        go_ret
        exact ⟨gt, F2, n', t', rfl, a3, z4, z5, z6⟩
      · clear hlt
        go_wp2_with fail
        refine (di_arm hA' 0 (by omega)).mono ?_
        rintro e w2 ⟨rfl, a2⟩
        replace a2 : All w0 w2 (Di w0.heap.size g (D F' 0) :: Ps) := a2
        obtain ⟨z1, F2, n', t', z2, z3, z4, z5, z6⟩ := end_mid hM' hn
        have Z2 := Lib.hid z2
        have Z3 := Lib.hid z3
        go_wp2_with fail
        refine (ti_open a2 1 (few_D F' 0)).mono ?_
        rintro e w3 ⟨v3, rfl, h3⟩
        rw [z1]
        rcases h3 with ⟨h, _⟩ | ⟨_, gt, rfl, a3⟩
        · exact absurd z1 h
        rw [Z2.out, Z3.out] at a3
        go_wp2
        go_ret
        exact ⟨gt, F2, n', t', rfl, a3, z4, z5, z6⟩
theorem start_h : h0 = half 1 [] := by decide +kernel
theorem start_eq : S0 = D S0.fl 0 := by
  have e : S0.un = [] ∧ S0.on = true ∧ S0.fuse = 0 := by decide +kernel
  show S0 = ⟨S0.fl, [], true, 0⟩
  rw [← e.1, ← e.2.1, ← e.2.2]
theorem start_four : Four S0.fl := ⟨by decide +kernel, by decide +kernel⟩
theorem start_inv : ∃ F, S0 = D F 0 ∧ Inv F 1 [] :=
  ⟨S0.fl, start_eq, ⟨start_four, by omega, by omega, by decide, by decide +kernel, zeros64, by decide, by decide, by decide +kernel⟩⟩
theorem inv_even {F : List (List UInt8)} {n : Nat} {t : List UInt8} (h : Inv F n t) : alike (F.getD 1 []) ∧ alike (F.getD 2 []) := by
  obtain ⟨X, hX, _, hq⟩ := h.fq
  have hp := h.alike_p
  have hq' : alike (F.getD (pl (n + 1)) []) := by rw [hq]; exact alike_two hX
  rcases pl_cases n with ⟨e1, e2⟩ | ⟨e1, e2⟩
  · rw [e1] at hp; rw [e2] at hq'; exact ⟨hp, hq'⟩
  · rw [e1] at hp; rw [e2] at hq'; exact ⟨hq', hp⟩
set_option maxRecDepth 100000 in
set_option maxHeartbeats 4000000 in
theorem walk (W : World) (v : Value) (l : List Try) (hL : Lst W 4 QT v l) : Calls Try.prog 4 #[v] W fun e w' => e = .returned (.bool true) ∧ Below W.heap.size W w' := by
  obtain ⟨A, cap, rfl, hll⟩ := hL.form
  go_enter Try.func4, Try.ntmps4
  go_wp2_with fail
  refine (works_walk _).mono ?_
  rintro e w1 ⟨rfl, b1⟩
  go_wp2_with fail
  refine (made_walk W w1 [] ((All.start W).below b1)).mono ?_
  rintro e w2 ⟨g, gt0, rfl, a2⟩
  obtain ⟨F0, e0, i0⟩ := start_inv
  rw [start_h, e0] at a2
  go_wp2
  go_loopw [4, 5, 6, 7] (fun tv nv mv i wr => ∃ (k n gt : Nat) (F : List (List UInt8)) (tx : List UInt8), k ≤ l.length ∧ i = .int .i64 k ∧ tv = .pointer (some ⟨gt, 0, none⟩) ∧ nv = .string ⟨tx.toArray⟩ ∧ mv = .int .u64 n ∧ n ≤ k + 1 ∧ k ≤ 12 ∧ Inv F n tx ∧ All W wr (Ti W.heap.size gt g 1 (half n tx) false :: Di W.heap.size g (D F 0) :: [])) (fun _ _ _ i _ => l.length - (RowKit.intOf i).toNat)
  case atStart => exact ⟨0, 1, gt0, F0, [], by omega, rfl, rfl, rfl, rfl, by omega, by omega, i0, a2⟩
  case round =>
    obtain ⟨k, n, gt, F, tx, hk, rfl, rfl, rfl, rfl, hnk, hk12', hI, hA⟩ := hrel
    rcases Nat.lt_or_ge k l.length with hk1 | hk1
    · rcases Nat.lt_or_ge k 12 with hk12 | hk12
      · obtain ⟨b, off, cap', cs, e, hcl, ⟨htl, vf, vo, rfl, hsf, hso⟩, hcell⟩ := hL.get k hk1
        injection e with e1 e2 e3
        subst e1 e3
        have q0 := hcell 0 (by omega)
        have q1 := hcell 1 (by omega)
        have q2 := hcell 2 (by omega)
        have q3 := hcell 3 (by omega)
        have hlt0 : b < W.heap.size := cell_lt q0
        simp only [List.getElem?_cons_zero, List.getElem?_cons_succ, Nat.add_zero] at q0 q1 q2 q3
        generalize (l[k]).text = text at *
        generalize (l[k]).fates = fates at *
        generalize (l[k]).opens = opens at *
        have hfu := (l[k]).fuse.toNat_lt
        generalize (l[k]).fuse.toNat = fu at *
        have hu := hA.under
        have c0 : wr.cell? ⟨b, off + k * 4, none⟩ = some (.string ⟨text.toArray⟩) := (hu.cell (p := ⟨b, off + k * 4, none⟩) hlt0).trans q0
        have c0d : wr.drew.cell? ⟨b, off + k * 4, none⟩ = some (.string ⟨text.toArray⟩) := c0
        have c1d : wr.drew.cell? ⟨b, off + k * 4 + 1, none⟩ = some (.int .u8 fu) := (hu.cell (p := ⟨b, off + k * 4 + 1, none⟩) hlt0).trans q1
        have hm : min (text.length : Int) 55 = ((min text.length 55 : Nat) : Int) := by omega
        have hml : min text.length 55 ≤ text.length := Nat.min_le_left _ _
        have hm55 : min text.length 55 ≤ 55 := Nat.min_le_right _ _
        have hul : (text.take (min text.length 55)).length ≤ 55 := by rw [List.length_take]; omega
        generalize min text.length 55 = m at *
        have hex : (⟨text.toArray⟩ : ByteArray).extract 0 m = ⟨(text.take m).toArray⟩ := by rw [ByteArray.extract_mk]; simp
        generalize text.take m = u at *
        have hmI : (m : Int) ≤ text.length := by omega
        have htm : (fu : Int).tmod 4 = ((fu % 4 : Nat) : Int) := by rw [Int.tmod_eq_emod_of_nonneg (by omega)]; omega
        have hd4 : fu % 4 < 4 := Nat.mod_lt _ (by omega)
        generalize fu % 4 = d at *
        have hAd : All W wr.drew (Di W.heap.size g (D F 0) :: Ti W.heap.size gt g 1 (half n tx) false :: []) := hA.swap.drew
        obtain ⟨F2, X, s1, s2, s3⟩ := set_mid (f := d) hI hul fates
        clear hcell hu
        have few1 := few_D F d
        have hEND := Lib.hid (fun (h : n < 200) => s2)
        generalize hse : setE (D F d) 1 (half n tx) false u = se at *
        generalize hss : setS (D F d) 1 (half n tx) false u = ss at *
        generalize hsh : setH (D F d) 1 (half n tx) false u = sh at *
        generalize hsl : setL (D F d) 1 (half n tx) false u = sl at *
        have HSE := Lib.hid hse
        have HSS := Lib.hid hss
        have HSH := Lib.hid hsh
        have HSL := Lib.hid hsl
        have HS1 := Lib.hid s1
        clear hse hss hsh hsl s1
        have hF2s := s2.fp
        have HM := Lib.hid s2
        clear s2
        by_cases hz : se = 0
        · subst hz
          go_wp2_with fail
          go_region
          go_wp2_with fail
          refine (di_arm hAd (d : Int) (by omega)).mono ?_
          rintro e w2 ⟨rfl, a2⟩
          replace a2 : All W w2 (Ti W.heap.size gt g 1 (half n tx) false :: Di W.heap.size g (D F d) :: []) := All.swap a2
          go_wp2_with fail
          refine (ti_set a2 (by omega) (by omega) u (by omega) few1).mono ?_
          rintro e w3 ⟨rfl, a3⟩
          rw [HSE.out]
          rw [HSS.out, HSH.out, HSL.out] at a3
          go_wp2_with fail
          refine (di_off a3.swap).mono ?_
          rintro e w4 ⟨rfl, a4⟩
          have c2 : w4.cell? ⟨b, off + k * 4 + 2, none⟩ = some vf := (a4.under.cell (p := ⟨b, off + k * 4 + 2, none⟩) hlt0).trans q2
          go_wp2_with fail
          refine (di_wake_old a4 vf fates (src_len hsf) hsf).mono ?_
          rintro e w5 ⟨rfl, a5⟩
          replace a5 : All W w5 (Di W.heap.size g (wakeS (TQ.off ss) fates) :: Ti W.heap.size gt g 1 sh sl :: []) := a5
          rw [HS1.out] at a5
          have a5t := (All.swap a5).tail
          have c3 : w5.cell? ⟨b, off + k * 4 + 3, none⟩ = some vo := (a5.under.cell (p := ⟨b, off + k * 4 + 3, none⟩) hlt0).trans q3
          go_wp2_with fail
          refine (opened_walk a5t HM.out (by omega) vo opens hso).mono ?_
          rintro e w6 ⟨gt2, F3, n2, t2, rfl, a6, i6, hor, hok⟩
          have htx : txt (half n2 t2) = t2 := txt_half n2 t2 i6.len
          have hnm : num (half n2 t2) = n2 := num_half n2 t2 (by have := i6.small; omega)
          obtain ⟨halike1, halike2⟩ := inv_even i6
          have hn2 : n2 = n + 1 := hok (by first | trivial | rfl)
          have ht2 : t2 = u := by
            rcases hor with ⟨h1, h2⟩ | ⟨h1, h2⟩
            · omega
            · exact h2
          subst hn2 ht2
          go_wp2_with fail
          refine (ti_text a6).mono ?_
          rintro e w7 ⟨rfl, b7⟩
          rw [htx]
          have a7 := a6.below b7
          go_wp2_with fail
          refine (ti_seq a7).mono ?_
          rintro e w8 ⟨rfl, b8⟩
          rw [hnm]
          have a8 := a7.below b8
          go_wp2_with fail
          refine (ti_text a8).mono ?_
          rintro e w9 ⟨rfl, b9⟩
          rw [htx]
          have a9 := a8.below b9
          go_wp2_with fail
          refine (ti_text a9).mono ?_
          rintro e w10 ⟨rfl, b10⟩
          rw [htx]
          have a10 := a9.below b10
          go_wp2_with fail
          refine (ti_seq a10).mono ?_
          rintro e w11 ⟨rfl, b11⟩
          rw [hnm]
          have a11 := a10.below b11
          go_wp2_with fail
          refine (even_walk a11.swap i6.four halike1 halike2).mono ?_
          rintro e w20 ⟨rfl, b20⟩
          have a20 := a11.below b20
          go_wp2
          go_roundw
          case rel => exact ⟨k + 1, _, gt2, F3, _, by omega, by go_num, rfl, rfl, by first | rfl | go_num, by omega, by omega, i6, a20⟩
          case measure => simp [RowKit.intOf]; omega
        · have hze : (se == 0) = false := beq_eq_false_iff_ne.2 hz
          go_wp2_with fail
          go_region
          go_wp2_with fail
          refine (di_arm hAd (d : Int) (by omega)).mono ?_
          rintro e w2 ⟨rfl, a2⟩
          replace a2 : All W w2 (Ti W.heap.size gt g 1 (half n tx) false :: Di W.heap.size g (D F d) :: []) := All.swap a2
          go_wp2_with fail
          refine (ti_set a2 (by omega) (by omega) u (by omega) few1).mono ?_
          rintro e w3 ⟨rfl, a3⟩
          rw [HSE.out]
          rw [HSS.out, HSH.out, HSL.out] at a3
          go_wp2_with fail
          refine (di_off a3.swap).mono ?_
          rintro e w4 ⟨rfl, a4⟩
          have c2 : w4.cell? ⟨b, off + k * 4 + 2, none⟩ = some vf := (a4.under.cell (p := ⟨b, off + k * 4 + 2, none⟩) hlt0).trans q2
          go_wp2_with fail
          refine (di_wake_old a4 vf fates (src_len hsf) hsf).mono ?_
          rintro e w5 ⟨rfl, a5⟩
          replace a5 : All W w5 (Di W.heap.size g (wakeS (TQ.off ss) fates) :: Ti W.heap.size gt g 1 sh sl :: []) := a5
          rw [HS1.out] at a5
          have a5t := (All.swap a5).tail
          have c3 : w5.cell? ⟨b, off + k * 4 + 3, none⟩ = some vo := (a5.under.cell (p := ⟨b, off + k * 4 + 3, none⟩) hlt0).trans q3
          go_wp2_with fail
          refine (opened_walk a5t HM.out (by omega) vo opens hso).mono ?_
          rintro e w6 ⟨gt2, F3, n2, t2, rfl, a6, i6, hor, hok⟩
          have htx : txt (half n2 t2) = t2 := txt_half n2 t2 i6.len
          have hnm : num (half n2 t2) = n2 := num_half n2 t2 (by have := i6.small; omega)
          obtain ⟨halike1, halike2⟩ := inv_even i6
          rcases hor with ⟨h1, h2⟩ | ⟨h1, h2⟩
          · subst h1 h2
            have hne1 : ∀ x : Nat, ((x : Int) == (x : Int) + 1) = false := fun x => beq_eq_false_iff_ne.2 (by omega)
            go_wp2_with fail
            refine (ti_seq a6).mono ?_
            rintro e w8 ⟨rfl, b8⟩
            rw [hnm]
            have a8 := a6.below b8
            go_wp2_with fail
            refine (ti_text a8).mono ?_
            rintro e w10 ⟨rfl, b10⟩
            rw [htx]
            have a10 := a8.below b10
            go_wp2_with fail
            refine (ti_seq a10).mono ?_
            rintro e w11 ⟨rfl, b11⟩
            rw [hnm]
            have a11 := a10.below b11
            go_wp2_with fail
            refine (even_walk a11.swap i6.four halike1 halike2).mono ?_
            rintro e w20 ⟨rfl, b20⟩
            have a20 := a11.below b20
            go_wp2
            go_roundw
            case rel => exact ⟨k + 1, _, gt2, F3, _, by omega, by go_num, rfl, rfl, by first | rfl | go_num, by omega, by omega, i6, a20⟩
            case measure => simp [RowKit.intOf]; omega
          · subst h1 h2
            go_wp2_with fail
            refine (ti_seq a6).mono ?_
            rintro e w8 ⟨rfl, b8⟩
            rw [hnm]
            have a8 := a6.below b8
            go_wp2_with fail
            refine (ti_text a8).mono ?_
            rintro e w9 ⟨rfl, b9⟩
            rw [htx]
            have a9 := a8.below b9
            go_wp2_with fail
            refine (ti_text a9).mono ?_
            rintro e w10 ⟨rfl, b10⟩
            rw [htx]
            have a10 := a9.below b10
            go_wp2_with fail
            refine (ti_seq a10).mono ?_
            rintro e w11 ⟨rfl, b11⟩
            rw [hnm]
            have a11 := a10.below b11
            go_wp2_with fail
            refine (even_walk a11.swap i6.four halike1 halike2).mono ?_
            rintro e w20 ⟨rfl, b20⟩
            have a20 := a11.below b20
            go_wp2
            go_roundw
            case rel => exact ⟨k + 1, _, gt2, F3, _, by omega, by go_num, rfl, rfl, by first | rfl | go_num, by omega, by omega, i6, a20⟩
            case measure => simp [RowKit.intOf]; omega
      · go_wp2
        go_ret
        exact ⟨rfl, hA.under⟩
    · go_wp2
      go_ret
      exact ⟨rfl, hA.under⟩

set_option maxRecDepth 100000 in
theorem lifted (os : Os) (started : os.Started) (H : Type) (enc : TypeId × Value → H) :
    ReturnsInHanded {} Try.checked os 4 .any (Rows.twinKeepsSpec.pre6 enc Try.prog Try.f4 Rows.twinKeepsRow.domain false) (Rows.twinKeepsSpec.post enc Try.prog Try.f4 false true false false) := by
  refine returnsInHanded_of_change (C := Try.checked) own started (by kernel_rfl) Try.func4
    (ChangeSpec.witness6 (enc := enc) (C := Try.checked) false ⟨#[], #[.slice none 0 0], []⟩ 8 (by kernel_rfl) (by kernel_rfl) (by kernel_rfl) (by kernel_rfl)) ?_
  intro W base args ds gs before hval0 hW hcnd _
  have hval : ∀ (j : Nat) t v, Try.f4.params[j]? = some t → args[j]? = some v → Value.okWide Try.prog W .any base t v := hval0
  have hW' := hW
  obtain ⟨p, q, hA0, hV, rfl, hfz, hnd⟩ := hW
  have hA : DataW.TrodAll enc Try.prog W 0 (fun _ => true) true Try.f4.params.toList args.toList ds p := hA0
  rw [Try.params4] at hA hval
  obtain ⟨v0, vs0, d0, ds0, p0, q0, hargs, rfl, rfl, h0, r0⟩ := trodAll_cons hA
  obtain ⟨rfl, rfl, rfl⟩ := trodAll_nil r0
  obtain rfl : args = #[v0] := by cases args; simp_all
  obtain ⟨rfl, rfl⟩ := trodVars_none hV
  obtain ⟨A0, len0, cap0, rfl⟩ := Go.WideShapes.okWide_slice Try.underlying53 (hval 0 53 v0 rfl rfl)
  obtain ⟨l0, hL0⟩ := open_tries h0 rfl
  clear hA0 hval0
  have hc := walk W _ l0 hL0
  try simp only [Array.toArray_toList] at hc
  refine hc.mono fun e W' ⟨he, hg⟩ => ?_
  subst he
  exact ⟨_, rfl, law_post rfl (by decide +kernel) (by kernel_rfl) rfl hW' hg⟩

theorem over : Rows.twinKeepsRow.holds Try.pinned (OpenSpec.ofChange Rows.twinKeepsSpec) :=
  OpenClaim.holds_of_wide 4 Try.f4 rfl rfl rfl rfl rfl rfl rfl ⟨rfl, rfl, rfl, rfl, rfl⟩ rfl rfl rfl rfl rfl (by kernel_rfl) Try.func4 (by kernel_rfl)
    (of_decide_eq_true (by kernel_rfl)) (by unfold Func.isWrapper; first | (rw [if_pos (by decide +kernel)]; kernel_rfl) | (rw [if_neg (by decide +kernel)]; exact ⟨rfl, rfl⟩))
    (fun os started H enc _ => lifted os started H enc)

theorem proved : Rows.TwinKeepsSaid :=
  over
#print axioms proved
end TwinKeeps
end Go.Proofs.Ytjdkmafbogaboaa
