/- The document's disk: Arm, Off, an operation. -/
import Derived.Test.YtjdkmafbogaboaaRefMem
namespace Go.Proofs.Ytjdkmafbogaboaa
open Go.RowKit Go.Lib MM MF DM DK DN FL DW DF MY RM
namespace RD
/-- Behind a call on the document's disk. -/
def RAfter (w w' : World) (B g : Nat) (S : St) (fs : List Nat) : Prop := ∃ fs', Rf B g S w' fs' ∧ Fr w w' fs ∧ ∀ x ∈ fs', x ∈ fs ∨ w.heap.size ≤ x
section
variable {w w' : World} {B g : Nat} {S S' : St} {fs : List Nat}
theorem RAfter.refl (h : Rf B g S w fs) : RAfter w w B g S fs := ⟨fs, h, Fr.refl _ _, fun _ hx => .inl hx⟩
/-- Power and fuse are turned, no more. -/
theorem rf_flags (h : Rf B g S w fs) (on : Bool) (k : Nat) (hk : k ≤ 9223372036854775807) (fr : Fr w w' [g]) (hh : ∀ a b, Has w g 73 [a, b, .bool S.on, .int .i64 S.fuse] → Has w' g 73 [a, b, .bool on, .int .i64 k]) :
    RAfter w w' B g { S with on := on, fuse := k } fs := by
  obtain ⟨vf, vw, h1, h2, h3, hg, hf, hu, hb, rfl⟩ := h
  have nf : vf.ownBlock ≠ some g := own_ne hf (Row.of_has hg) (by decide)
  have nu : vw.ownBlock ≠ some g := own_ne hu (Row.of_has hg) (by decide)
  refine ⟨_, ⟨vf, vw, ⟨h1.1, h1.2.1, h1.2.2.1, hk⟩, h2, h3, hh _ _ hg, fr.owns hf (fun x hx => ?_), fr.owns hu (fun x hx => ?_), hb, rfl⟩, fr.more (by simp), fun x hx => .inl hx⟩
  · simp; rintro rfl; exact nf hx
  · simp; rintro rfl; exact nu hx
theorem rf_cells (h : Rf B g S w fs) : ∃ vf vw, Has w g 73 [vf, vw, .bool S.on, .int .i64 S.fuse] := by
  obtain ⟨vf, vw, h1, h2, h3, hg, _⟩ := h
  exact ⟨vf, vw, hg⟩
theorem roff_walk (h : Rf B g S w fs) : Calls Try.prog 16 #[.pointer (some ⟨g, 0, none⟩)] w fun e w' => e = .returned (.tuple #[]) ∧ RAfter w w' B g { S with on := false, fuse := 0 } fs := by
  have ho := rf_flags (w' := (w.setCell ⟨g, 2, none⟩ (.bool false)).setCell ⟨g, 3, none⟩ (.int .i64 0)) h false 0 (by omega) (((Fr.refl w [g]).setCell (by simp) _).setCell (by simp) _) (fun a b hc => (hc.put 2 _).put 3 _)
  obtain ⟨vf, vw, hg⟩ := rf_cells h
  have c2 := hg.cell 2
  have c3 := hg.cell 3
  have f2 := hg.free 2
  have f3 := hg.free 3
  have HO := Lib.hid ho
  clear hg h ho
  go_enter Try.func16, Try.ntmps16
  go_wp2
  go_end0
  exact ⟨rfl, HO.out⟩
theorem rarm_walk (h : Rf B g S w fs) (n : Int) (hn : n ≤ 9223372036854775807) : Calls Try.prog 14 #[.pointer (some ⟨g, 0, none⟩), .int .i64 n] w fun e w' => e = .returned (.tuple #[]) ∧ RAfter w w' B g { S with fuse := n.toNat } fs := by
  have ho := rf_flags (w' := w.setCell ⟨g, 3, none⟩ (.int .i64 (n.toNat : Int))) h S.on n.toNat (by omega) ((Fr.refl w [g]).setCell (by simp) _) (fun a b hc => hc.put 3 _)
  obtain ⟨vf, vw, hg⟩ := rf_cells h
  have c3 := hg.cell 3
  have f3 := hg.free 3
  rw [show (n.toNat : Int) = max n 0 by omega] at ho
  have HO := Lib.hid ho
  clear hg h ho
  go_enter Try.func14, Try.ntmps14
  go_wp2
  go_end0
  exact ⟨rfl, HO.out⟩
theorem RAfter.next {w2 : World} {fs1 : List Nat} {S2 : St} (r : Fr w w' fs) (m : ∀ x ∈ fs1, x ∈ fs ∨ w.heap.size ≤ x) (h : RAfter w' w2 B g S2 fs1) : RAfter w w2 B g S2 fs := by
  obtain ⟨f2, d, r2, m2⟩ := h
  refine ⟨f2, d, r.trans r2 m, fun x hx => ?_⟩
  rcases m2 x hx with h | h
  · exact m x h
  · exact .inr (Nat.le_trans r.size h)
theorem rop_walk (h : Rf B g S w fs) : Calls Try.prog 51 #[.pointer (some ⟨g, 0, none⟩)] w fun e w' => e = .returned (.bool (opOk S)) ∧ RAfter w w' B g (opS S) fs := by
  have h' := h
  obtain ⟨vf, vw, hg⟩ := rf_cells h
  have hfu : S.fuse ≤ 9223372036854775807 := by obtain ⟨_, _, ok, _⟩ := h; exact ok.2.2.2
  have c3 := hg.cell 3
  have f3 := hg.free 3
  rcases Nat.eq_zero_or_pos S.fuse with hz | hz
  · have e1 : opOk S = true := by unfold opOk; rw [hz]; rfl
    have e2 : opS S = S := by unfold opS; rw [if_pos hz]
    have HE := Lib.hid (RAfter.refl h')
    rw [e1, e2]
    replace c3 : w.cell? ⟨g, 3, none⟩ = some (.int .i64 ((0 : Nat) : Int)) := by rw [← hz]; exact c3
    clear hg h e1 e2 h' hz
    go_enter Try.func51, Try.ntmps51
    go_wp2
    go_ret
    exact ⟨rfl, HE.out⟩
  · by_cases h1' : S.fuse = 1
    · have e1 : opOk S = false := by unfold opOk; rw [h1']; rfl
      have e2 : opS S = { S with on := false, fuse := 0 } := by unfold opS; rw [if_neg (by omega), if_pos h1']
      have ha := rf_flags (w' := w.setCell ⟨g, 3, none⟩ (.int .i64 ((0 : Nat) : Int))) h' S.on 0 (by omega) ((Fr.refl w [g]).setCell (by simp) _) (fun a b hc => hc.put 3 _)
      obtain ⟨f1', d1, r1, m1⟩ := ha
      have HF := Lib.hid (roff_walk d1)
      have HD := Lib.hid (show ∀ w2, RAfter (w.setCell ⟨g, 3, none⟩ (.int .i64 ((0 : Nat) : Int))) w2 B g { S with on := false, fuse := 0 } f1' → RAfter w w2 B g { S with on := false, fuse := 0 } fs from
        fun w2 x => RAfter.next r1 m1 x)
      rw [e1, e2]
      replace c3 : w.cell? ⟨g, 3, none⟩ = some (.int .i64 ((1 : Nat) : Int)) := by rw [← h1']; exact c3
      clear hg h e1 e2 h' hz d1 r1 m1 h1'
      go_enter Try.func51, Try.ntmps51
      go_wp2_with fail
      refine HF.out.mono ?_
      rintro e w2 ⟨rfl, hx⟩
      have HX := Lib.hid (HD.out w2 hx)
      clear hx
      go_wp2
      go_ret
      exact ⟨rfl, HX.out⟩
    · have e1 : opOk S = true := by unfold opOk; simpa using h1'
      have e2 : opS S = { S with fuse := S.fuse - 1 } := by unfold opS; rw [if_neg (by omega), if_neg h1']
      have ha := rf_flags (w' := w.setCell ⟨g, 3, none⟩ (.int .i64 ((S.fuse - 1 : Nat) : Int))) h' S.on (S.fuse - 1) (by omega) ((Fr.refl w [g]).setCell (by simp) _) (fun a b hc => hc.put 3 _)
      rw [e1, e2]
      obtain ⟨k, hk⟩ : ∃ k, S.fuse = k + 2 := ⟨S.fuse - 2, by omega⟩
      rw [hk, show k + 2 - 1 = k + 1 by omega] at ha
      rw [hk, show k + 2 - 1 = k + 1 by omega]
      replace c3 : w.cell? ⟨g, 3, none⟩ = some (.int .i64 ((k + 2 : Nat) : Int)) := by rw [← hk]; exact c3
      have hkb : k ≤ 9223372036854775805 := by omega
      have HF := Lib.hid ha
      clear hg h e1 e2 h' ha h1' hz hk hfu
      go_enter Try.func51, Try.ntmps51
      go_wp2
      go_ret
      refine ⟨rfl, ?_⟩
      rw [show (k : Int) + 2 - 1 = ((k + 1 : Nat) : Int) by omega]
      exact HF.out
/-! ### Read -/
theorem ucells_at (u : List (Nat × List UInt8)) (j : Nat) (x : Nat × List UInt8) (h : u[j]? = some x) : (ucells u)[j * 2]? = some (.int .i64 x.1) ∧ (ucells u)[j * 2 + 1]? = some (str x.2) := by
  induction u generalizing j with
  | nil => simp at h
  | cons y u ih =>
    have e : ucells (y :: u) = Value.int .i64 y.1 :: str y.2 :: ucells u := rfl
    rw [e]
    cases j with
    | zero =>
      simp at h
      subst h
      exact ⟨rfl, rfl⟩
    | succ j =>
      have := ih j (by simpa using h)
      rw [show (j + 1) * 2 = j * 2 + 1 + 1 by omega]
      exact this
/-- What the first k writes leave in sector i. -/
def seen (S : St) (i k : Nat) : List UInt8 := (nowOf S.fl (S.un.take k)).getD i []
theorem seen_zero (S : St) (i : Nat) : seen S i 0 = S.fl.getD i [] := rfl
theorem seen_all (S : St) (i : Nat) : seen S i S.un.length = S.now.getD i [] := by unfold seen; rw [List.take_length]; rfl
theorem seen_hit (S : St) (i k : Nat) (x : Nat × List UInt8) (h : S.un[k]? = some x) (hi : i < S.fl.length) (hx : x.1 = i) : seen S i (k + 1) = x.2 := by
  unfold seen
  rw [List.take_add_one, h, Option.toList_some, nowOf_snoc, hx, List.getD_eq_getElem?_getD, List.getElem?_set_self (by rw [nowOf_length]; exact hi)]
  rfl
theorem seen_miss (S : St) (i k : Nat) (x : Nat × List UInt8) (h : S.un[k]? = some x) (hx : x.1 ≠ i) : seen S i (k + 1) = seen S i k := by
  unfold seen
  rw [List.take_add_one, h, Option.toList_some, nowOf_snoc, List.getD_eq_getElem?_getD, List.getElem?_set_ne hx, ← List.getD_eq_getElem?_getD]
set_option maxRecDepth 100000 in
set_option maxHeartbeats 1000000 in
theorem rread_walk (h : Rf B g S w fs) (i : Int) : Calls Try.prog 27 #[.pointer (some ⟨g, 0, none⟩), .int .i64 i] w fun e w' => e = .returned (.tuple #[.string ⟨(readT S i).toArray⟩, .int .i64 (refuse S i)]) ∧ w = w' := by
  obtain ⟨vf, vw, h1, h2, h3, hg, hf, hu, hb, rfl⟩ := h
  obtain ⟨Af, capf, rfl, hnf, hF⟩ := DF.own_slice hf
  obtain ⟨Aw, capw, rfl, hnw, hW⟩ := DF.own_slice hu
  have c0 := hg.cell 0
  have c1 := hg.cell 1
  have c2 := hg.cell 2
  cases hon : S.on with
  | false =>
    have e1 : refuse S i = 8 := refuse_off hon
    rw [e1, readT_not (by rw [e1]; omega)]
    replace c2 : w.cell? ⟨g, 2, none⟩ = some (.bool false) := by rw [← hon]; exact c2
    clear h1 h2 h3 hg hf hu hb hnf hF hnw hW c0 c1 hon e1
    go_enter Try.func27, Try.ntmps27
    go_wp2
    go_ret2
    exact ⟨rfl, rfl⟩
  | true =>
    replace c2 : w.cell? ⟨g, 2, none⟩ = some (.bool true) := by rw [← hon]; exact c2
    rcases Int.lt_or_le i 0 with hi | hi
    · have e1 : refuse S i = 6 := refuse_out hon (.inl hi)
      rw [e1, readT_not (by rw [e1]; omega)]
      have hd : decide (i < 0) = true := by simp; omega
      clear h1 h2 h3 hg hf hu hb hnf hF hnw hW c1 hon e1
      go_enter Try.func27, Try.ntmps27
      go_wp2
      go_ret2
      exact ⟨rfl, rfl⟩
    · rcases Int.lt_or_le i (S.fl.length : Int) with hi2 | hi2
      · obtain ⟨n, rfl⟩ := Int.eq_ofNat_of_zero_le hi
        have hn : n < S.fl.length := by omega
        have e1 : refuse S n = 0 := refuse_in hon hi hi2
        have e2 : readT S n = seen S n S.un.length := by rw [seen_all]; unfold readT; rw [if_pos e1, Int.toNat_natCast]
        rw [e1, e2]
        obtain ⟨bf, rfl, hrf, _⟩ := hF (by omega)
        have cF : w.cell? ⟨bf, n, none⟩ = some (.string ⟨(seen S n 0).toArray⟩) := by
          rw [hrf.cell n (by simpa using hn), seen_zero, List.getD_eq_getElem?_getD, List.getElem?_eq_getElem hn]
          simp [str]
        have hWc : ∀ k x, S.un[k]? = some x → ∃ bw, Aw = some ⟨bw, 0, none⟩ ∧ w.cell? ⟨bw, k * 2, none⟩ = some (.int .i64 x.1) ∧ w.cell? ⟨bw, k * 2 + 1, none⟩ = some (.string ⟨x.2.toArray⟩) := by
          intro k x hx
          have hk : k < S.un.length := (List.getElem?_eq_some_iff.1 hx).1
          obtain ⟨bw, e, hr, _⟩ := hW (by omega)
          obtain ⟨q1, q2⟩ := ucells_at _ _ _ hx
          obtain ⟨l1, r1⟩ := List.getElem?_eq_some_iff.1 q1
          obtain ⟨l2, r2⟩ := List.getElem?_eq_some_iff.1 q2
          exact ⟨bw, e, by rw [hr.cell _ l1, r1], by rw [hr.cell _ l2, r2]; rfl⟩
        have HWC := Lib.hid hWc
        have HH := Lib.hid (fun k x h hx => seen_hit S n k x h hn hx)
        have HM := Lib.hid (fun k x h hx => seen_miss S n k x h hx)
        clear h1 h2 h3 hg hf hu hb hF hW hon e1 e2 hrf hWc
        go_enter Try.func27, Try.ntmps27
        go_wp2
        go_loopw [6, 7] (fun s x wr => (∃ k : Nat, k ≤ S.un.length ∧ s = .string ⟨(seen S n k).toArray⟩ ∧ x = .int .i64 k) ∧ wr = w) (fun _ x _ => S.un.length - (RowKit.intOf x).toNat)
        case atStart => exact ⟨⟨0, by omega, rfl, rfl⟩, rfl⟩
        case round =>
          obtain ⟨⟨k, hk, rfl, rfl⟩, hwr⟩ := hrel
          subst hwr
          by_cases hlt : k < S.un.length
          · obtain ⟨x, hx⟩ : ∃ x, S.un[k]? = some x := ⟨_, List.getElem?_eq_getElem hlt⟩
            obtain ⟨bw, rfl, d0, d1⟩ := HWC.out k x hx
            have hh := HH.out k x hx
            have hm := HM.out k x hx
            have HX := Lib.hid hh
            have HY := Lib.hid hm
            clear hx hh hm cF
            obtain ⟨q, t⟩ := x
            simp only at d0 d1
            by_cases hq : q = n
            · have HZ := Lib.hid (HX.out hq)
              subst hq
              clear HX HY
              go_wp2
              go_roundw
              case rel => exact ⟨⟨k + 1, by omega, by rw [HZ.out], by go_num⟩, trivial⟩
              case measure => simp [RowKit.intOf]; omega
            · have HZ := Lib.hid (HY.out hq)
              have hd : ((q : Int) == (n : Int)) = false := by simp; omega
              clear HX HY
              go_wp2
              go_roundw
              case rel => exact ⟨⟨k + 1, by omega, by rw [HZ.out], by go_num⟩, trivial⟩
              case measure => simp [RowKit.intOf]; omega
          · have hk2 : k = S.un.length := by omega
            have HK := Lib.hid hk2
            clear hk2 cF
            go_wp2
            go_ret2
            refine ⟨?_, rfl⟩
            rw [HK.out]
            rfl
      · have e1 : refuse S i = 6 := refuse_out hon (.inr hi2)
        rw [e1, readT_not (by rw [e1]; omega)]
        have hd : decide (i < 0) = false := by simp; omega
        have hd2 : decide ((S.fl.length : Int) ≤ i) = true := by simp; omega
        clear h1 h2 h3 hg hf hu hb hF hW c1 hon e1
        go_enter Try.func27, Try.ntmps27
        go_wp2
        go_ret2
        exact ⟨rfl, rfl⟩
/-! ### Write -/
theorem rwrite_not (h : Rf B g S w fs) (i : Int) (l : List UInt8) (hno : ¬ (refuse S i = 0 ∧ l.length = 128 ∧ opOk S = true)) :
    Calls Try.prog 21 #[.pointer (some ⟨g, 0, none⟩), .int .i64 i, .string ⟨l.toArray⟩] w fun e w' => e = .returned (.int .i64 (writeE S i l)) ∧ RAfter w w' B g (writeS S i l) fs := by
  have HC := Lib.hid (rread_walk h i)
  by_cases hr : refuse S i = 0
  · by_cases hl : l.length = 128
    · have hop : opOk S = false := by
        cases h' : opOk S with
        | true => exact absurd ⟨hr, hl, h'⟩ hno
        | false => rfl
      have e1 : writeE S i l = 8 := by unfold writeE; rw [if_neg (by simpa using hr), if_neg (by simpa using hl), if_neg (by simp [hop])]
      have e2 : writeS S i l = opS S := by unfold writeS; rw [if_neg (by simpa using hr), if_neg (by simpa using hl), if_neg (by simp [hop])]
      rw [e1, e2]
      have HO := Lib.hid (rop_walk h)
      have HR := Lib.hid hr
      clear hr e1 e2 hno
      generalize readT S i = rt at *
      go_enter Try.func21, Try.ntmps21
      go_wp2_with fail
      refine HC.out.mono ?_
      rintro e w' ⟨rfl, rfl⟩
      rw [HR.out]
      go_wp2_with fail
      refine HO.out.mono ?_
      rintro e w1 ⟨rfl, ha⟩
      rw [hop]
      go_wp2
      go_ret
      exact ⟨rfl, ha⟩
    · have e1 : writeE S i l = 2 := by unfold writeE; rw [if_neg (by simpa using hr), if_pos (by simpa using hl)]
      have e2 : writeS S i l = S := by unfold writeS; rw [if_neg (by simpa using hr), if_pos (by simpa using hl)]
      rw [e1, e2]
      have HA := Lib.hid (RAfter.refl h)
      have HR := Lib.hid hr
      have hne : ((l.length : Int) != 128) = true := by rw [bne_iff_ne]; omega
      clear hr e1 e2 hno
      generalize readT S i = rt at *
      go_enter Try.func21, Try.ntmps21
      go_wp2_with fail
      refine HC.out.mono ?_
      rintro e w' ⟨rfl, rfl⟩
      rw [HR.out]
      go_wp2
      go_ret
      exact ⟨rfl, HA.out⟩
  · have e1 : writeE S i l = refuse S i := by unfold writeE; rw [if_pos hr]
    have e2 : writeS S i l = S := by unfold writeS; rw [if_pos hr]
    rw [e1, e2]
    have HA := Lib.hid (RAfter.refl h)
    have hne : (refuse S i != 0) = true := by simpa using hr
    generalize readT S i = rt at *
    generalize refuse S i = r at *
    clear hr e1 e2 h hno
    go_enter Try.func21, Try.ntmps21
    go_wp2_with fail
    refine HC.out.mono ?_
    rintro e w' ⟨rfl, rfl⟩
    go_wp2
    go_ret
    exact ⟨rfl, HA.out⟩
theorem owns_apart {w : World} {B B' n n' size size' : Nat} {t u : TypeId} {v v' : Value} {xs ys : List Value} (a : w.ownsRow B t size v n xs) (b : w.ownsRow B' u size' v' n' ys) (hne : t ≠ u) : ∀ x, v.ownBlock = some x → v'.ownBlock ≠ some x := by
  intro x hx hy
  rcases b.2 with ⟨rfl, _⟩ | ⟨g', cap, cur, rfl, _⟩
  · simp [Value.ownBlock] at hy
  · simp [Value.ownBlock] at hy
    subst hy
    exact own_ne a (Row.owns b).1 hne hx
theorem writeInfo : (Try.prog.info? 96).map (fun i => (i.zero, i.size, i.bytes)) = some (some (.agg #[.int .i64 0, .string ⟨#[]⟩]), 2, 24) := by kernel_rfl
theorem ucells_length (u : List (Nat × List UInt8)) : (ucells u).length = u.length * 2 := by
  induction u with
  | nil => rfl
  | cons x u ih => rw [show ucells (x :: u) = Value.int .i64 x.1 :: str x.2 :: ucells u from rfl, List.length_cons, List.length_cons, ih, List.length_cons]; omega
theorem ucells_snoc (u : List (Nat × List UInt8)) (x : Nat × List UInt8) : ucells (u ++ [x]) = ucells u ++ [Value.int .i64 x.1, str x.2] := by unfold ucells; simp
set_option maxRecDepth 100000 in
set_option maxHeartbeats 1000000 in
theorem rwrite_ok (h : Rf B g S w fs) (n : Nat) (l : List UInt8) (hr : refuse S n = 0) (hl : l.length = 128) (hop : opOk S = true) (hfew : S.un.length < 1000000000) :
    Calls Try.prog 21 #[.pointer (some ⟨g, 0, none⟩), .int .i64 n, .string ⟨l.toArray⟩] w fun e w' => e = .returned (.int .i64 0) ∧ RAfter w w' B g { opS S with un := S.un ++ [(n, l)] } fs := by
  have HC := Lib.hid (rread_walk h n)
  have HO := Lib.hid (rop_walk h)
  have HR := Lib.hid hr
  have hn : n < S.fl.length := by have := (refuse_zero hr).2.2; omega
  have hl' : ((l.length : Int) != 128) = false := by simp; omega
  obtain ⟨i0, hi0, hz0, hs0, hb0⟩ := info_parts writeInfo
  have HI := Lib.hid hi0
  have HZ0 := Lib.hid hz0
  have HS0 := Lib.hid hs0
  have HB0 := Lib.hid hb0
  have un1 := opS_un S
  have fl1 := opS_fl S
  clear hr hi0 hz0 hs0 hb0 h
  generalize readT S n = rt at *
  generalize hS1 : opS S = S1 at *
  go_enter Try.func21, Try.ntmps21
  go_wp2_with fail
  refine HC.out.mono ?_
  rintro e w' ⟨rfl, rfl⟩
  rw [HR.out]
  go_wp2_with fail
  refine HO.out.mono ?_
  rintro e w1 ⟨rfl, f1, d1, r1, m1⟩
  rw [hop]
  obtain ⟨vf, vw, ok1, few1, pos1, hg, hf, hu, hb, hfs⟩ := d1
  have c1 := hg.cell 1
  have nf : vf.ownBlock ≠ some g := own_ne hf (Row.of_has hg) (by decide)
  have nu : vw.ownBlock ≠ some g := own_ne hu (Row.of_has hg) (by decide)
  have nfu := owns_apart hf hu (by decide)
  have hown1 := hu.alloc (.cells #[Value.int .i64 n, str l] 96)
  have hf1 := hf.alloc (.cells #[Value.int .i64 n, str l] 96)
  have hgl := hg.lt
  have hfl1 := fun x hx => (hf.lt x hx)
  have hnews : ∀ j u, [Value.int .i64 n, str l][j]? = some u → (w1.alloc (.cells #[Value.int .i64 n, str l] 96)).cell? ((⟨w1.heap.size, 0, none⟩ : Addr).add j) = some u := by
    intro j u hj
    rw [Addr.add_mid, Nat.zero_add]
    exact ((show Has (w1.alloc (.cells [Value.int .i64 n, str l].toArray 96)) w1.heap.size 96 _ from heap_alloc_new _ _).cell j).trans hj
  have hgA := hg.grow (.cells #[Value.int .i64 n, str l] 96)
  have HO1 := Lib.hid hown1
  have HN := Lib.hid hnews
  have hlen := ucells_length S1.un
  rw [un1] at hlen
  clear hown1 hnews hu hf
  go_wp2_with (first
    | (at_builtin
       refine wpList_append_lies _ rfl (.tmp 28) (.tmp 32) _ rfl B 96 i0 _ 2 24 Try.underlying71 HI.out HZ0.out HS0.out HB0.out (by simp [Value.cells]) (by omega) vw S1.un.length (ucells S1.un) rfl HO1.out ⟨w1.heap.size, 0, none⟩ 1 1 [Value.int .i64 n, str l] rfl rfl HN.out (by intro u hu; simp at hu; rcases hu with rfl | rfl <;> rfl) (by omega) (by unfold maxLen; omega) (by omega) (by simp; omega) (w1.heap.size + 1) (by simp) ?_
       intro gu cu w2 hown2 hgrow hat hlt2
       have frg := Fr.of_grown hgrow (fs := vw.ownBlock.toList) (by simp)
       have hg2 : Has w2 g 73 _ := frg.has hgA (by simp; exact nu)
       have d1 := hg2.cell 1
       have d1f := hg2.free 1
       clear c1 HN))
  have hgu : gu ≠ g := by
    rcases hat with h | h
    · exact fun e => nu (by rw [h, e])
    · omega
  have hf3 := ((Fr.refl w2 [g]).setCell (p := ⟨g, 1, none⟩) (by simp) (.slice (some ⟨gu, 0, none⟩) (S.un.length + 1) cu)).owns (frg.owns hf1 (fun x hx => by simp; exact nfu x hx)) (fun x hx => by simp; rintro rfl; exact nf hx)
  rw [un1] at hown2
  have hu3 := ((Fr.refl w2 [g]).setCell (p := ⟨g, 1, none⟩) (by simp) (.slice (some ⟨gu, 0, none⟩) (S.un.length + 1) cu)).owns hown2 (by simp [Value.ownBlock]; exact hgu)
  have hg3 := hg2.put 1 (.slice (some ⟨gu, 0, none⟩) (S.un.length + 1) cu)
  have fr1 : Fr w1 (w2.setCell ⟨g, 1, none⟩ (.slice (some ⟨gu, 0, none⟩) (S.un.length + 1) cu)) f1 := by
    refine Fr.setCell (Fr.trans ((Fr.refl w1 f1).alloc _) frg (fun x hx => .inl ?_)) (.inl ?_) _
    · rw [hfs]; simp at hx; simp [hx]
    · rw [hfs]; simp
  have hS2 : ∀ (q : Nat), q = S.un.length + 1 → ({ S1 with un := S.un ++ [(n, l)] } : St).un.length = q := by intro q hq; rw [hq]; simp
  go_ret
  refine ⟨rfl, _, ⟨vf, .slice (some ⟨gu, 0, none⟩) (S.un.length + 1) cu, ⟨ok1.1, fun x hx => ?_, ok1.2.2.1, ok1.2.2.2⟩, ?_, pos1, hg3, hf3, ?_, hb, rfl⟩, r1.trans fr1 m1, fun x hx => ?_⟩
  · rcases List.mem_append.1 hx with hx | hx
    · exact ok1.2.1 x (by rw [un1]; exact hx)
    · simp at hx
      subst hx
      exact ⟨by show n < S1.fl.length; rw [fl1]; exact hn, hl⟩
  · rw [hS2 _ rfl]; omega
  · rw [hS2 _ rfl]
    show World.ownsRow _ _ _ _ _ _ (ucells (S.un ++ [(n, l)]))
    rw [ucells_snoc, ← un1]
    rw [← un1] at hu3
    exact hu3
  · have key : x ∈ f1 ∨ w1.heap.size ≤ x := by
      simp [Value.ownBlock] at hx
      rw [hfs]
      rcases hx with rfl | hx | rfl
      · simp
      · left; simp; right; left; exact hx
      · rcases hat with h | h
        · simp [h]
        · right; omega
    rcases key with h | h
    · exact m1 x h
    · exact .inr (Nat.le_trans r1.size h)
theorem rwrite_walk (h : Rf B g S w fs) (i : Int) (l : List UInt8) (hfew : S.un.length < 1000000000) : Calls Try.prog 21 #[.pointer (some ⟨g, 0, none⟩), .int .i64 i, .string ⟨l.toArray⟩] w fun e w' => e = .returned (.int .i64 (writeE S i l)) ∧ RAfter w w' B g (writeS S i l) fs := by
  by_cases hc : refuse S i = 0 ∧ l.length = 128 ∧ opOk S = true
  · obtain ⟨hr, hl, hop⟩ := hc
    obtain ⟨k, rfl⟩ := Int.eq_ofNat_of_zero_le (refuse_zero hr).2.1
    have e1 : writeE S k l = 0 := by unfold writeE; rw [if_neg (by simpa using hr), if_neg (by simpa using hl), if_pos hop]
    have e2 : writeS S k l = { opS S with un := S.un ++ [(k, l)] } := by unfold writeS; rw [if_neg (by simpa using hr), if_neg (by simpa using hl), if_pos hop]; rfl
    rw [e1, e2]
    exact rwrite_ok h k l hr hl hop hfew
  · exact rwrite_not h i l hc
/-! ### Flush -/
theorem rflush_off (h : Rf B g S w fs) (hon : S.on = false) : Calls Try.prog 41 #[.pointer (some ⟨g, 0, none⟩)] w fun e w' => e = .returned (.int .i64 8) ∧ RAfter w w' B g S fs := by
  have HA := Lib.hid (RAfter.refl h)
  obtain ⟨vf, vw, hg⟩ := rf_cells h
  have c2 := hg.cell 2
  rw [hon] at c2
  clear hg h hon
  go_enter Try.func41, Try.ntmps41
  go_wp2
  go_ret
  exact ⟨rfl, HA.out⟩
theorem rflush_last (h : Rf B g S w fs) (hon : S.on = true) (hop : opOk S = false) : Calls Try.prog 41 #[.pointer (some ⟨g, 0, none⟩)] w fun e w' => e = .returned (.int .i64 8) ∧ RAfter w w' B g (opS S) fs := by
  have HO := Lib.hid (rop_walk h)
  obtain ⟨vf, vw, hg⟩ := rf_cells h
  have c2 := hg.cell 2
  rw [hon] at c2
  clear hg h hon
  go_enter Try.func41, Try.ntmps41
  go_wp2_with fail
  refine HO.out.mono ?_
  rintro e w1 ⟨rfl, ha⟩
  rw [hop]
  go_wp2
  go_ret
  exact ⟨rfl, ha⟩
end
end RD
end Go.Proofs.Ytjdkmafbogaboaa
