/- The walk over a twin's mend: sectors whose halves are unlike are written with zeros. -/
import Derived.Test.YtkhdidhpcdlmcaaTwinDisk
import Derived.Deep.LoopGhost
namespace Go.Proofs.Ytkhdidhpcdlmcaa
open Go.RowKit Go.Lib MM MF DM DK TM FL TH DN DW DF TD
namespace TN
/-- Of what is mended by k sectors: the disk, was one written, and what was answered. -/
structure Md where
  S : St
  b : Bool
  e : Int
def mendTo (S : St) (a : Int) : Nat → Md
  | 0 => ⟨S, false, 0⟩
  | k + 1 =>
    let M := mendTo S a k
    if M.e ≠ 0 then M
    else if refuse M.S (a + k) ≠ 0 then ⟨M.S, M.b, refuse M.S (a + k)⟩
    else if hfirst M.S (a + k) = hlast M.S (a + k) then M
    else if writeE M.S (a + k) (two zeros64) ≠ 0 then ⟨writeS M.S (a + k) (two zeros64), M.b, writeE M.S (a + k) (two zeros64)⟩
    else ⟨writeS M.S (a + k) (two zeros64), true, 0⟩
theorem mend_stop {S : St} {a : Int} {k : Nat} (h : (mendTo S a k).e ≠ 0) : mendTo S a (k + 1) = mendTo S a k := by
  rw [mendTo]; simp only [if_pos h]
theorem mend_stop2 {S : St} {a : Int} {k : Nat} (hk : k ≤ 2) (h : (mendTo S a k).e ≠ 0) : mendTo S a 2 = mendTo S a k := by
  have : k = 0 ∨ k = 1 ∨ k = 2 := by omega
  rcases this with rfl | rfl | rfl
  · exact absurd rfl h
  · exact mend_stop h
  · rfl
theorem mend_refuse {S T : St} {a : Int} {k : Nat} {b : Bool} (h : mendTo S a k = ⟨T, b, 0⟩) (hr : refuse T (a + k) ≠ 0) : mendTo S a (k + 1) = ⟨T, b, refuse T (a + k)⟩ := by
  rw [mendTo, h]; simp only [ne_eq, not_true_eq_false, if_false, if_pos hr]
theorem mend_alike {S T : St} {a : Int} {k : Nat} {b : Bool} (h : mendTo S a k = ⟨T, b, 0⟩) (hr : refuse T (a + k) = 0) (he : hfirst T (a + k) = hlast T (a + k)) : mendTo S a (k + 1) = ⟨T, b, 0⟩ := by
  rw [mendTo, h]; simp only [ne_eq, not_true_eq_false, if_false, hr, he, if_true]
theorem mend_fail {S T : St} {a : Int} {k : Nat} {b : Bool} (h : mendTo S a k = ⟨T, b, 0⟩) (hr : refuse T (a + k) = 0) (he : hfirst T (a + k) ≠ hlast T (a + k)) (hw : writeE T (a + k) (two zeros64) ≠ 0) : mendTo S a (k + 1) = ⟨writeS T (a + k) (two zeros64), b, writeE T (a + k) (two zeros64)⟩ := by
  rw [mendTo, h]; simp only [ne_eq, not_true_eq_false, if_false, hr, if_neg he, if_pos hw]
theorem mend_ok {S T : St} {a : Int} {k : Nat} {b : Bool} (h : mendTo S a k = ⟨T, b, 0⟩) (hr : refuse T (a + k) = 0) (he : hfirst T (a + k) ≠ hlast T (a + k)) (hw : writeE T (a + k) (two zeros64) = 0) : mendTo S a (k + 1) = ⟨writeS T (a + k) (two zeros64), true, 0⟩ := by
  rw [mendTo, h]; simp only [ne_eq, not_true_eq_false, if_false, hr, if_neg he, hw]
/-- What mend answers, and what it leaves. -/
def mendE (S : St) (a : Int) : Int := let M := mendTo S a 2; if M.e ≠ 0 then M.e else if M.b = true then flushE M.S else 0
def mendS (S : St) (a : Int) : St := let M := mendTo S a 2; if M.e ≠ 0 then M.S else if M.b = true then flushS M.S else M.S
theorem mendE_stop {S T : St} {a r : Int} {b : Bool} {k : Nat} (hk : k ≤ 2) (h : mendTo S a k = ⟨T, b, r⟩) (hr : r ≠ 0) : mendE S a = r ∧ mendS S a = T := by
  have h2 := mend_stop2 hk (by rw [h]; exact hr)
  unfold mendE mendS
  rw [h2, h]
  simp only [if_pos hr]
  exact ⟨trivial, trivial⟩
theorem mendE_none {S T : St} {a : Int} (h : mendTo S a 2 = ⟨T, false, 0⟩) : mendE S a = 0 ∧ mendS S a = T := by
  unfold mendE mendS; rw [h]; simp
theorem mendE_some {S T : St} {a : Int} (h : mendTo S a 2 = ⟨T, true, 0⟩) : mendE S a = flushE T ∧ mendS S a = flushS T := by
  unfold mendE mendS; rw [h]; simp
theorem writeS_un (S : St) (i : Int) (l : List UInt8) : (writeS S i l).un.length ≤ S.un.length + 1 := by
  unfold writeS
  split
  · omega
  · split
    · omega
    · split
      · show (S.un ++ _).length ≤ _
        simp
      · rw [opS_un]; omega
theorem mendTo_un (S : St) (a : Int) : ∀ k, (mendTo S a k).S.un.length ≤ S.un.length + k
  | 0 => Nat.le_refl _
  | k + 1 => by
    have ih := mendTo_un S a k
    have hw := writeS_un (mendTo S a k).S (a + k) (two zeros64)
    rw [mendTo]
    split
    · omega
    · split
      · exact Nat.le_succ_of_le ih
      · split
        · omega
        · split
          · exact Nat.le_trans hw (by omega)
          · exact Nat.le_trans hw (by omega)
theorem build_zeros (Z : List Value) (hZ : Z = byteCells zeros64) (W : World) : (Instr.build 116 #[]).run Try.prog W = .ok (.agg Z.toArray) W := by
  subst hZ; kernel_rfl
def RelM (w : World) (B g : Nat) (S : St) (fs : List Nat) (a : Int) (m i : Value) (wr : World) : Prop := ∃ (k : Nat) (T : St) (b : Bool), k ≤ 2 ∧ i = .int .i64 k ∧ m = .bool b ∧ mendTo S a k = ⟨T, b, 0⟩ ∧ After w wr B g T fs
set_option maxRecDepth 100000 in
set_option maxHeartbeats 4000000 in
theorem mend_walk (w : World) (B g : Nat) (S : St) (fs : List Nat) (h : Dk w B g S fs) (a : Int) (h0 : 0 ≤ a) (h1 : a ≤ 4096) (hlen : S.un.length < 999999990) : Calls Try.prog 96 #[.pointer (some ⟨g, 0, none⟩), .int .i64 a] w fun e w' =>
    e = .returned (.int .i64 (mendE S a)) ∧ After w w' B g (mendS S a) fs := by
  obtain ⟨Z, hZ⟩ : ∃ Z, Z = byteCells zeros64 := ⟨_, rfl⟩
  have hzw := zero_half Z hZ
  have hbz := build_zeros Z hZ
  have hmf := make_wr g
  have hZL : Z.length = 64 := by rw [hZ]; rfl
  have HZ := Lib.hid hZ
  clear hZ
  have ha := After.refl h
  clear h
  go_enter Try.func96, Try.ntmps96
  go_wp2
  go_loopw [5, 11] (fun m i wr => RelM w B g S fs a m i wr) (fun _ i _ => 2 - (RowKit.intOf i).toNat)
  case atStart => exact ⟨0, S, false, by omega, rfl, rfl, rfl, ha⟩
  case round =>
    obtain ⟨k, T, b, hk, rfl, rfl, hM, hA⟩ := hrel
    by_cases hlt : k < 2
    · obtain ⟨f1, d1, r1, m1⟩ := hA
      have hTl : T.un.length < 999999995 := by have := mendTo_un S a k; rw [hM] at this; simp at this; omega
      have hF := hfirst_length d1.ok (a + k)
      have hL := hlast_length d1.ok (a + k)
      have HH := Lib.hid (halves_walk wr B g T f1 d1 (a + k))
      have H1 := Lib.hid (fun hr => mend_refuse hM hr)
      have H2 := Lib.hid (fun hr he => mend_alike hM hr he)
      have H3 := Lib.hid (fun hr he hw => mend_fail hM hr he hw)
      have H4 := Lib.hid (fun hr he hw => mend_ok hM hr he hw)
      have HP := Lib.hid (fun (w3 : World) (hb3 : Below wr.heap.size wr w3) => put_walk w3 B g T f1 (d1.below hb3) (a + k) zeros64 rfl (by omega))
      have HA := Lib.hid (fun (w3 w4 : World) (T2 : St) (hb3 : Below wr.heap.size wr w3) (x : After w3 w4 B g T2 f1) => After.next r1 m1 (After.next (Fr.of_below hb3 f1) (fun x hx => .inl hx) x))
      have HB := Lib.hid (fun (w3 : World) (hb3 : Below wr.heap.size wr w3) => After.next r1 m1 (After.next (Fr.of_below hb3 f1) (fun x hx => .inl hx) (After.refl (d1.below hb3))))
      rw [← HZ.out] at HP
      generalize refuse T (a + k) = r at *
      generalize hfirst T (a + k) = F at *
      generalize hlast T (a + k) = L at *
      generalize writeE T (a + k) (two zeros64) = E2 at *
      generalize writeS T (a + k) (two zeros64) = T2 at *
      have HSF := Lib.hid (half_size hF)
      have HSL := Lib.hid (half_size hL)
      have hFc : (byteCells F).length = Z.length := by rw [byteCells_length, hF, hZL]
      have hLc : (byteCells L).length = Z.length := by rw [byteCells_length, hL, hZL]
      have heq := eq_half F L hF hL
      clear d1 r1 m1
      by_cases hr : r = 0
      · subst hr
        by_cases hFL : F = L
        · have hbq : (F == L) = true := by rw [hFL]; exact beq_self_eq_true _
          rw [hbq] at heq
          have H5 := Lib.hid (H2.out rfl hFL)
          clear H1 H2 H3 H4 HP HA hFL hbq
          go_wp2_with fail
          refine HH.out.mono ?_
          rintro e w1 ⟨rfl, b1⟩
          have ha2 : Row ((w1.alloc (.cells Z.toArray 116)).alloc (.cells Z.toArray 116)) w1.heap.size 116 Z := Row.of_has ((show Has (w1.alloc (.cells Z.toArray 116)) w1.heap.size 116 Z from heap_alloc_new w1 _).grow _)
          have hb2 : Row ((w1.alloc (.cells Z.toArray 116)).alloc (.cells Z.toArray 116)) (w1.heap.size + 1) 116 Z := by
            rw [show w1.heap.size + 1 = (w1.alloc (.cells Z.toArray 116)).heap.size by simp]
            exact Row.of_has (show Has _ _ 116 Z from heap_alloc_new _ _)
          have bb : Below wr.heap.size wr ((w1.alloc (.cells Z.toArray 116)).alloc (.cells Z.toArray 116)) := (b1.alloc b1.size _).alloc (by have := b1.size; simp; omega) _
          go_wp2_with (first
            | (refine wpList_store_all rfl _ (.tmp 7) (.tmp 20) rfl w1.heap.size (byteCells F) rfl rfl 116 _ ha2 hFc HSF.out (byteCells_one _) ?_
               intro w2 hw2 hf2
               have hb2' := hb2.kept hf2 (by simp)
               have bb2 := bb.trans (hf2.below (B := wr.heap.size) (by have := b1.size; simpa using this) bb.size))
            | (refine wpList_store_all rfl _ (.tmp 8) (.tmp 21) rfl (w1.heap.size + 1) (byteCells L) rfl rfl 116 _ hb2' hLc HSL.out (byteCells_one _) ?_
               intro w3 hw3 hf3
               have ha3 := hw2.kept hf3 (by simp)
               have lf := ha3.range 0 _ (fun j hj => by rw [Nat.zero_add])
               have ll := hw3.range 0 _ (fun j hj => by rw [Nat.zero_add])
               have bb3 := bb2.trans (hf3.below (B := wr.heap.size) (by have := b1.size; simp; omega) bb2.size))
            | (refine wpList_load_mid rfl _ (.tmp 7) rfl w1.heap.size 0 rfl (byteCells F) _ lf Try.underlying116 rfl HSF.out ?_)
            | (refine wpList_load_mid rfl _ (.tmp 8) rfl (w1.heap.size + 1) 0 rfl (byteCells L) _ ll Try.underlying116 rfl HSL.out ?_))
          have HX := Lib.hid (HB.out w3 bb3)
          go_roundw
          case rel => exact ⟨k + 1, T, b, by omega, by go_num, rfl, H5.out, HX.out⟩
          case measure => simp [RowKit.intOf]; omega
        · have hbq : (F == L) = false := beq_eq_false_iff_ne.2 hFL
          rw [hbq] at heq
          by_cases hE : E2 = 0
          · have H5 := Lib.hid (H4.out rfl hFL hE)
            subst hE
            clear H1 H2 H3 H4 hFL hbq
            go_wp2_with fail
            refine HH.out.mono ?_
            rintro e w1 ⟨rfl, b1⟩
            have ha2 : Row ((w1.alloc (.cells Z.toArray 116)).alloc (.cells Z.toArray 116)) w1.heap.size 116 Z := Row.of_has ((show Has (w1.alloc (.cells Z.toArray 116)) w1.heap.size 116 Z from heap_alloc_new w1 _).grow _)
            have hb2 : Row ((w1.alloc (.cells Z.toArray 116)).alloc (.cells Z.toArray 116)) (w1.heap.size + 1) 116 Z := by
              rw [show w1.heap.size + 1 = (w1.alloc (.cells Z.toArray 116)).heap.size by simp]
              exact Row.of_has (show Has _ _ 116 Z from heap_alloc_new _ _)
            have bb : Below wr.heap.size wr ((w1.alloc (.cells Z.toArray 116)).alloc (.cells Z.toArray 116)) := (b1.alloc b1.size _).alloc (by have := b1.size; simp; omega) _
            go_wp2_with (first
              | (refine wpList_store_all rfl _ (.tmp 7) (.tmp 20) rfl w1.heap.size (byteCells F) rfl rfl 116 _ ha2 hFc HSF.out (byteCells_one _) ?_
                 intro w2 hw2 hf2
                 have hb2' := hb2.kept hf2 (by simp)
                 have bb2 := bb.trans (hf2.below (B := wr.heap.size) (by have := b1.size; simpa using this) bb.size))
              | (refine wpList_store_all rfl _ (.tmp 8) (.tmp 21) rfl (w1.heap.size + 1) (byteCells L) rfl rfl 116 _ hb2' hLc HSL.out (byteCells_one _) ?_
                 intro w3 hw3 hf3
                 have ha3 := hw2.kept hf3 (by simp)
                 have lf := ha3.range 0 _ (fun j hj => by rw [Nat.zero_add])
                 have ll := hw3.range 0 _ (fun j hj => by rw [Nat.zero_add])
                 have bb3 := bb2.trans (hf3.below (B := wr.heap.size) (by have := b1.size; simp; omega) bb2.size))
              | (refine wpList_load_mid rfl _ (.tmp 7) rfl w1.heap.size 0 rfl (byteCells F) _ lf Try.underlying116 rfl HSF.out ?_)
              | (refine wpList_load_mid rfl _ (.tmp 8) rfl (w1.heap.size + 1) 0 rfl (byteCells L) _ ll Try.underlying116 rfl HSL.out ?_)
              | (go_at_call 116
                 refine (HP.out w3 bb3).mono ?_
                 rintro e w4 ⟨rfl, a4⟩
                 have A4 := Lib.hid (HA.out w3 w4 T2 bb3 a4)
                 clear a4))
            go_roundw
            case rel => exact ⟨k + 1, T2, true, by omega, by go_num, rfl, H5.out, A4.out⟩
            case measure => simp [RowKit.intOf]; omega
          · have H5 := Lib.hid (mendE_stop (by omega) (H3.out rfl hFL hE) hE)
            have hne : (E2 != 0) = true := by simpa using hE
            clear H1 H2 H3 H4 hFL hbq hE
            go_wp2_with fail
            refine HH.out.mono ?_
            rintro e w1 ⟨rfl, b1⟩
            have ha2 : Row ((w1.alloc (.cells Z.toArray 116)).alloc (.cells Z.toArray 116)) w1.heap.size 116 Z := Row.of_has ((show Has (w1.alloc (.cells Z.toArray 116)) w1.heap.size 116 Z from heap_alloc_new w1 _).grow _)
            have hb2 : Row ((w1.alloc (.cells Z.toArray 116)).alloc (.cells Z.toArray 116)) (w1.heap.size + 1) 116 Z := by
              rw [show w1.heap.size + 1 = (w1.alloc (.cells Z.toArray 116)).heap.size by simp]
              exact Row.of_has (show Has _ _ 116 Z from heap_alloc_new _ _)
            have bb : Below wr.heap.size wr ((w1.alloc (.cells Z.toArray 116)).alloc (.cells Z.toArray 116)) := (b1.alloc b1.size _).alloc (by have := b1.size; simp; omega) _
            go_wp2_with (first
              | (refine wpList_store_all rfl _ (.tmp 7) (.tmp 20) rfl w1.heap.size (byteCells F) rfl rfl 116 _ ha2 hFc HSF.out (byteCells_one _) ?_
                 intro w2 hw2 hf2
                 have hb2' := hb2.kept hf2 (by simp)
                 have bb2 := bb.trans (hf2.below (B := wr.heap.size) (by have := b1.size; simpa using this) bb.size))
              | (refine wpList_store_all rfl _ (.tmp 8) (.tmp 21) rfl (w1.heap.size + 1) (byteCells L) rfl rfl 116 _ hb2' hLc HSL.out (byteCells_one _) ?_
                 intro w3 hw3 hf3
                 have ha3 := hw2.kept hf3 (by simp)
                 have lf := ha3.range 0 _ (fun j hj => by rw [Nat.zero_add])
                 have ll := hw3.range 0 _ (fun j hj => by rw [Nat.zero_add])
                 have bb3 := bb2.trans (hf3.below (B := wr.heap.size) (by have := b1.size; simp; omega) bb2.size))
              | (refine wpList_load_mid rfl _ (.tmp 7) rfl w1.heap.size 0 rfl (byteCells F) _ lf Try.underlying116 rfl HSF.out ?_)
              | (refine wpList_load_mid rfl _ (.tmp 8) rfl (w1.heap.size + 1) 0 rfl (byteCells L) _ ll Try.underlying116 rfl HSL.out ?_)
              | (go_at_call 116
                 refine (HP.out w3 bb3).mono ?_
                 rintro e w4 ⟨rfl, a4⟩
                 have A4 := Lib.hid (HA.out w3 w4 T2 bb3 a4)
                 clear a4))
            go_ret
            rw [H5.out.1, H5.out.2]
            exact ⟨rfl, A4.out⟩
      · have H5 := Lib.hid (mendE_stop (by omega) (H1.out hr) hr)
        have hne : (r != 0) = true := by simpa using hr
        clear H1 H2 H3 H4 HP HA hr
        go_wp2_with fail
        refine HH.out.mono ?_
        rintro e w1 ⟨rfl, b1⟩
        have ha2 : Row ((w1.alloc (.cells Z.toArray 116)).alloc (.cells Z.toArray 116)) w1.heap.size 116 Z := Row.of_has ((show Has (w1.alloc (.cells Z.toArray 116)) w1.heap.size 116 Z from heap_alloc_new w1 _).grow _)
        have hb2 : Row ((w1.alloc (.cells Z.toArray 116)).alloc (.cells Z.toArray 116)) (w1.heap.size + 1) 116 Z := by
          rw [show w1.heap.size + 1 = (w1.alloc (.cells Z.toArray 116)).heap.size by simp]
          exact Row.of_has (show Has _ _ 116 Z from heap_alloc_new _ _)
        have bb : Below wr.heap.size wr ((w1.alloc (.cells Z.toArray 116)).alloc (.cells Z.toArray 116)) := (b1.alloc b1.size _).alloc (by have := b1.size; simp; omega) _
        go_wp2_with (first
          | (refine wpList_store_all rfl _ (.tmp 7) (.tmp 20) rfl w1.heap.size (byteCells F) rfl rfl 116 _ ha2 hFc HSF.out (byteCells_one _) ?_
             intro w2 hw2 hf2
             have hb2' := hb2.kept hf2 (by simp)
             have bb2 := bb.trans (hf2.below (B := wr.heap.size) (by have := b1.size; simpa using this) bb.size))
          | (refine wpList_store_all rfl _ (.tmp 8) (.tmp 21) rfl (w1.heap.size + 1) (byteCells L) rfl rfl 116 _ hb2' hLc HSL.out (byteCells_one _) ?_
             intro w3 hw3 hf3
             have ha3 := hw2.kept hf3 (by simp)
             have lf := ha3.range 0 _ (fun j hj => by rw [Nat.zero_add])
             have ll := hw3.range 0 _ (fun j hj => by rw [Nat.zero_add])
             have bb3 := bb2.trans (hf3.below (B := wr.heap.size) (by have := b1.size; simp; omega) bb2.size))
          | (refine wpList_load_mid rfl _ (.tmp 7) rfl w1.heap.size 0 rfl (byteCells F) _ lf Try.underlying116 rfl HSF.out ?_)
          | (refine wpList_load_mid rfl _ (.tmp 8) rfl (w1.heap.size + 1) 0 rfl (byteCells L) _ ll Try.underlying116 rfl HSL.out ?_))
        have HX := Lib.hid (HB.out w3 bb3)
        go_ret
        rw [H5.out.1, H5.out.2]
        exact ⟨rfl, HX.out⟩
    · have hk2 : k = 2 := by omega
      subst hk2
      obtain ⟨f1, d1, r1, m1⟩ := hA
      cases b with
      | false =>
        have H5 := Lib.hid (mendE_none hM)
        have HX := Lib.hid (After.next r1 m1 (After.refl d1))
        clear d1 r1 m1
        go_wp2
        go_ret
        rw [H5.out.1, H5.out.2]
        exact ⟨rfl, HX.out⟩
      | true =>
        have H5 := Lib.hid (mendE_some hM)
        have HF := Lib.hid (flush_walk wr B g T f1 d1)
        have HA := Lib.hid (fun (w2 : World) (T2 : St) (x : After wr w2 B g T2 f1) => After.next r1 m1 x)
        clear d1 r1 m1
        go_wp2_with fail
        refine HF.out.mono ?_
        rintro e w2 ⟨rfl, a2⟩
        have HX := Lib.hid (HA.out w2 _ a2)
        clear a2
        go_wp2
        go_ret
        rw [H5.out.1, H5.out.2]
        exact ⟨rfl, HX.out⟩
end TN
end Go.Proofs.Ytkhdidhpcdlmcaa
