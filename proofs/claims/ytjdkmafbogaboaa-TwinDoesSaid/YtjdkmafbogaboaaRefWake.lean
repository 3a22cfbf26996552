/- The document's disk: Flush, Wake. -/
import Derived.Test.YtjdkmafbogaboaaRefDoes
import Derived.Test.YtjdkmafbogaboaaSrc
import Derived.Laws.OwnMore
import Derived.StillTailTactics
namespace Go.Proofs.Ytjdkmafbogaboaa
open Go.RowKit Go.Lib MM MS MF DM DK DN FL DW DF DU MY RM RD
namespace RW
section
variable {w w' : World} {B g : Nat} {S S' : St} {fs : List Nat}
/-- In a loop over the writes: what was flushed is F; the writes are as they were. -/
def Lp (w0 : World) (B g n cf cw bf : Nat) (Aw : Option Addr) (u : List (Nat × List UInt8)) (on : Bool) (fuse : Nat) (F : List (List UInt8)) (w : World) : Prop :=
  Has w g 73 [.slice (some ⟨bf, 0, none⟩) n cf, .slice Aw u.length cw, .bool on, .int .i64 fuse] ∧ w.ownsRow B 9 1 (.slice (some ⟨bf, 0, none⟩) n cf) n (F.map str) ∧
    w.ownsRow B 96 2 (.slice Aw u.length cw) u.length (ucells u) ∧ Fr w0 w [bf]
/-- A disk laid open. -/
theorem rf_open (h : Rf B g S w fs) : ∃ (n cf cw bf : Nat) (Aw : Option Addr), S.Ok ∧ S.un.length ≤ 1000000000 ∧ 1 ≤ S.fl.length ∧ n = S.fl.length ∧ n ≤ 4096 ∧ Lp w B g n cf cw bf Aw S.un S.on S.fuse S.fl w ∧ B ≤ g ∧ B ≤ bf ∧ bf ≠ g ∧
    (Value.slice Aw S.un.length cw).ownBlock ≠ some g ∧ (Value.slice Aw S.un.length cw).ownBlock ≠ some bf ∧ fs = g :: bf :: (Value.slice Aw S.un.length cw).ownBlock.toList ∧
    (∀ w' F k x, Lp w B g n cf cw bf Aw S.un S.on S.fuse F w' → S.un[k]? = some x → ∃ bw, Aw = some ⟨bw, 0, none⟩ ∧ w'.cell? ⟨bw, k * 2, none⟩ = some (.int .i64 x.1) ∧ w'.cell? ⟨bw, k * 2 + 1, none⟩ = some (.string ⟨x.2.toArray⟩) ∧ bw < w'.heap.size) := by
  obtain ⟨vf, vw, h1, h2, h3, hg, hf, hu, hb, rfl⟩ := h
  have nf : vf.ownBlock ≠ some g := own_ne hf (Row.of_has hg) (by decide)
  have nu : vw.ownBlock ≠ some g := own_ne hu (Row.of_has hg) (by decide)
  have nfu := owns_apart hf hu (by decide)
  obtain ⟨Af, capf, rfl, hnf, hF⟩ := DF.own_slice hf
  obtain ⟨Aw, capw, rfl, hnw, hW⟩ := DF.own_slice hu
  obtain ⟨bf, rfl, hrf, hob⟩ := hF (by omega)
  have hbf : bf ≠ g := fun e => nf (by rw [hob, e])
  have hbB : B ≤ bf := (hf.lt bf hob).1
  refine ⟨S.fl.length, capf, capw, bf, Aw, h1, h2, h3, rfl, h1.2.2.1, ⟨hg, hf, hu, Fr.refl _ _⟩, hb, hbB, hbf, nu, ?_, by rw [hob]; rfl, ?_⟩
  · intro e
    exact nfu bf hob (by rw [e])
  · intro w' F k x hL hx
    have hk : k < S.un.length := (List.getElem?_eq_some_iff.1 hx).1
    obtain ⟨Aw', cap', e, _, hW'⟩ := DF.own_slice hL.2.2.1
    injection e with e1 e2 e3
    subst e1
    obtain ⟨bw, e, hr, _⟩ := hW' (by omega)
    obtain ⟨q1, q2⟩ := ucells_at _ _ _ hx
    obtain ⟨l1, r1⟩ := List.getElem?_eq_some_iff.1 q1
    obtain ⟨l2, r2⟩ := List.getElem?_eq_some_iff.1 q2
    exact ⟨bw, e, by rw [hr.cell _ l1, r1], by rw [hr.cell _ l2, r2]; rfl, hr.lt⟩
/-- A sector is stored. -/
theorem lp_put {w0 : World} {n cf cw bf : Nat} {Aw : Option Addr} {u : List (Nat × List UInt8)} {on : Bool} {fuse : Nat} {F : List (List UInt8)} (h : Lp w0 B g n cf cw bf Aw u on fuse F w) (hbg : bf ≠ g) (hwb : (Value.slice Aw u.length cw).ownBlock ≠ some bf) (q : Nat) (l : List UInt8) :
    Lp w0 B g n cf cw bf Aw u on fuse (F.set q l) (w.setCell ⟨bf, q, none⟩ (.string ⟨l.toArray⟩)) := by
  obtain ⟨h1, h2, h3, h4⟩ := h
  have fr : Fr w (w.setCell ⟨bf, q, none⟩ (.string ⟨l.toArray⟩)) [bf] := (Fr.refl w [bf]).setCell (by simp) _
  refine ⟨fr.has h1 (by simpa using Ne.symm hbg), ?_, fr.owns h3 (fun x hx => by simp; rintro rfl; exact hwb hx), h4.trans fr (by simp)⟩
  have := (h2.stored q (str l)).1
  rw [List.map_set]
  exact this
theorem lp_below {w0 : World} {n cf cw bf : Nat} {Aw : Option Addr} {u : List (Nat × List UInt8)} {on : Bool} {fuse : Nat} {F : List (List UInt8)} (h : Lp w0 B g n cf cw bf Aw u on fuse F w) (b : Below w.heap.size w w') : Lp w0 B g n cf cw bf Aw u on fuse F w' := by
  obtain ⟨h1, h2, h3, h4⟩ := h
  have f := Fr.of_below b []
  exact ⟨f.has h1 (by simp), f.owns h2 (by simp), f.owns h3 (by simp), h4.trans f (by simp)⟩
/-- Behind the loop the writes are let go. -/
theorem lp_end {w0 : World} {n cf cw bf : Nat} {Aw : Option Addr} {u : List (Nat × List UInt8)} {on : Bool} {fuse : Nat} {F : List (List UInt8)} (h : Lp w0 B g n cf cw bf Aw u on fuse F w) (hS : S.Ok) (hn : n = S.fl.length) (h1 : 1 ≤ n) (hF : F.length = n) (hr : ∀ r ∈ F, r.length = 128) (hB : B ≤ g) (hbg : bf ≠ g) (hu : fuse ≤ 9223372036854775807) : RAfter w0 (w.setCell ⟨g, 1, none⟩ (.slice none 0 0)) B g ⟨F, [], on, fuse⟩ (g :: bf :: (Value.slice Aw u.length cw).ownBlock.toList) := by
  obtain ⟨q1, q2, q3, q4⟩ := h
  have fr : Fr w (w.setCell ⟨g, 1, none⟩ (.slice none 0 0)) [g] := (Fr.refl w [g]).setCell (by simp) _
  refine ⟨g :: bf :: [], ⟨.slice (some ⟨bf, 0, none⟩) n cf, .slice none 0 0, ⟨hr, by simp, by show F.length ≤ 4096; have := hS.2.2.1; omega, hu⟩, by simp, by show 1 ≤ F.length; omega, q1.put 1 _, ?_, World.ownsRow_nil _ _ _ _, hB, rfl⟩, ?_, ?_⟩
  · show World.ownsRow _ _ _ _ _ F.length _
    rw [hF]
    exact fr.owns q2 (fun x hx => by simp [Value.ownBlock] at hx; subst hx; simpa using hbg)
  · refine (q4.more (fun x hx _ => by simp at hx; simp [hx])).trans fr (by simp)
  · intro x hx
    left
    simp at hx
    rcases hx with rfl | rfl <;> simp
theorem flush_step (f : List (List UInt8)) (u : List (Nat × List UInt8)) (k : Nat) (x : Nat × List UInt8) (h : u[k]? = some x) : nowOf f (u.take (k + 1)) = (nowOf f (u.take k)).set x.1 x.2 := by
  rw [List.take_add_one, h, Option.toList_some, nowOf_snoc]
set_option maxRecDepth 100000 in
set_option maxHeartbeats 2000000 in
theorem rflush_ok (h : Rf B g S w fs) (hon : S.on = true) (hop : opOk S = true) : Calls Try.prog 41 #[.pointer (some ⟨g, 0, none⟩)] w fun e w' => e = .returned (.int .i64 0) ∧ RAfter w w' B g { opS S with fl := S.now, un := [] } fs := by
  have HO := Lib.hid (rop_walk h)
  obtain ⟨vf, vw, hg0⟩ := rf_cells h
  have c2 := hg0.cell 2
  rw [hon] at c2
  have hnow : S.now = nowOf (opS S).fl (opS S).un := by rw [opS_fl, opS_un]; rfl
  rw [hnow]
  clear hg0 h hnow
  go_enter Try.func41, Try.ntmps41
  go_wp2_with fail
  refine HO.out.mono ?_
  rintro e w1 ⟨rfl, f1, d1, r1, m1⟩
  rw [hop]
  generalize hT : opS S = T at *
  have HT := Lib.hid hT
  clear hT
  obtain ⟨n, cf, cw, bf, Aw, ok, few, pos, hn, hn4, hL, hBg, hBf, hbg, nu, nb, hfs, hW⟩ := rf_open d1
  subst hn
  have hfree0 := fun (w' : World) (F : List (List UInt8)) (q : Lp w1 B g T.fl.length cf cw bf Aw T.un T.on T.fuse F w') => q.1
  clear d1
  go_wp2
  go_loopw [3] (fun i wr => ∃ k : Nat, k ≤ T.un.length ∧ i = .int .i64 k ∧ Lp w1 B g T.fl.length cf cw bf Aw T.un T.on T.fuse (nowOf T.fl (T.un.take k)) wr) (fun i _ => T.un.length - (RowKit.intOf i).toNat)
  case atStart => exact ⟨0, by omega, rfl, by simpa [nowOf] using hL⟩
  case round =>
    obtain ⟨k, hk, rfl, hK⟩ := hrel
    have a0 := hK.1.cell 0
    have a1 := hK.1.cell 1
    have a1f := hK.1.free 1
    by_cases hlt : k < T.un.length
    · obtain ⟨x, hx⟩ : ∃ x, T.un[k]? = some x := ⟨_, List.getElem?_eq_getElem hlt⟩
      obtain ⟨bw, rfl, d0, d1, _⟩ := hW wr _ k x hK hx
      have hst := flush_step T.fl T.un k x hx
      have hxo := ok.2.1 x (List.mem_of_getElem? hx)
      have hput := lp_put hK hbg nb x.1 x.2
      rw [← hst] at hput
      have hxn : x.1 < T.fl.length := hxo.1
      have hcell : (wr.cell? ⟨bf, x.1, none⟩).isSome = true := by
        rw [hK.2.1.cellAt x.1 (by omega), List.getElem?_eq_getElem (by rw [List.length_map, nowOf_length]; exact hxo.1)]
        rfl
      obtain ⟨u0, hu0⟩ := Option.isSome_iff_exists.1 hcell
      have hfz := hK.2.1.frozenAt x.1
      obtain ⟨q, l⟩ := x
      simp only at d0 d1 hput hu0 hfz hxn
      have hqI : (q : Int) < T.fl.length := by omega
      have HPUT := Lib.hid hput
      have e0 : wr.drew.cell? ⟨g, 0, none⟩ = _ := a0
      have e1 : wr.drew.cell? ⟨g, 1, none⟩ = _ := a1
      have e2 : wr.drew.cell? ⟨bw, k * 2, none⟩ = _ := d0
      have e3 : wr.drew.cell? ⟨bw, k * 2 + 1, none⟩ = _ := d1
      have e4 : wr.drew.cell? ⟨bf, q, none⟩ = _ := hu0
      have e5 : wr.drew.frozen? ⟨bf, q, none⟩ = false := hfz
      clear hst hxo hput hcell hK hx
      go_wp2_with fail
      refine wp_region_still_tail 21 (by kernel_rfl) (by kernel_rfl) ?_
      simp only [List.take_succ_cons, List.take_zero, List.drop_succ_cons, List.drop_zero]
      show wpStill _ _ (World.drew wr) (fun a' => wpList _ _ _ _ a' (World.drew wr)) _ _
      repeat still_step
      refine wpStill_nil ?_
      show wpList _ _ _ _ _ (World.drew wr)
      go_wp2
      go_roundw
      case rel => exact ⟨k + 1, by omega, by go_num, lp_below HPUT.out ⟨rfl, rfl, rfl, Nat.le_refl _, fun _ _ => rfl⟩⟩
      case measure => simp [RowKit.intOf]; omega
    · have hall : T.un.take k = T.un := List.take_of_length_le (by omega)
      rw [hall] at hK
      have hend := lp_end hK ok rfl (by omega) (nowOf_length _ _) (nowOf_rows _ _ ok.1 (fun x hx => (ok.2.1 x hx).2)) hBg hbg ok.2.2.2
      rw [← hfs] at hend
      have HX := Lib.hid (RAfter.next r1 m1 hend)
      clear hK hend
      go_wp2
      go_ret
      rw [HT.out]
      exact ⟨rfl, HX.out⟩
theorem rflush_walk (h : Rf B g S w fs) : Calls Try.prog 41 #[.pointer (some ⟨g, 0, none⟩)] w fun e w' => e = .returned (.int .i64 (flushE S)) ∧ RAfter w w' B g (flushS S) fs := by
  cases hon : S.on with
  | false =>
    have e1 : flushE S = 8 := by unfold flushE; rw [if_neg (by simp [hon])]
    have e2 : flushS S = S := by unfold flushS; rw [if_neg (by simp [hon])]
    rw [e1, e2]
    exact rflush_off h hon
  | true =>
    cases hop : opOk S with
    | false =>
      have e1 : flushE S = 8 := by unfold flushE; rw [if_neg (by simp [hop])]
      have e2 : flushS S = opS S := by unfold flushS; rw [if_pos hon, if_neg (by simp [hop])]
      rw [e1, e2]
      exact rflush_last h hon hop
    | true =>
      have e1 : flushE S = 0 := by unfold flushE; rw [if_pos ⟨hon, hop⟩]
      have e2 : flushS S = { opS S with fl := S.now, un := [] } := by unfold flushS; rw [if_pos hon, if_pos hop]
      rw [e1, e2]
      exact rflush_ok h hon hop
/-! ### Wake -/
theorem rwake_on (h : Rf B g S w fs) (hon : S.on = true) (v : Value) : Calls Try.prog 18 #[.pointer (some ⟨g, 0, none⟩), v] w fun e w' => e = .returned (.tuple #[]) ∧ RAfter w w' B g S fs := by
  have HA := Lib.hid (RAfter.refl h)
  obtain ⟨vf, vw, hg⟩ := rf_cells h
  have c2 := hg.cell 2
  rw [hon] at c2
  clear hg h hon
  go_enter Try.func18, Try.ntmps18
  go_wp2
  refine bodyPost_ret (results_none rfl _ _ _) rfl ?_
  exact ⟨rfl, HA.out⟩
theorem tear_at (f : List (List UInt8)) (u : List (Nat × List UInt8)) (cs : List UInt8) (k : Nat) (x : Nat × List UInt8) (h : u[k]? = some x) (m : Nat) (hm : keep (cs.getD k 0) = m) : wokenTo f u cs (k + 1) = (wokenTo f u cs k).set x.1 (x.2.take m ++ ((wokenTo f u cs k).getD x.1 []).drop m) := by
  rw [wokenTo, List.getD_eq_getElem?_getD, h, Option.getD_some]
  unfold tear
  rw [hm]
theorem cut_head (l : List UInt8) (m : Nat) : (⟨l.toArray⟩ : ByteArray).extract 0 m = ⟨(l.take m).toArray⟩ := by rw [ByteArray.extract_mk]; simp
theorem cut_rest (l : List UInt8) (m : Nat) (hl : l.length = 128) : (⟨l.toArray⟩ : ByteArray).extract m 128 = ⟨(l.drop m).toArray⟩ := by
  rw [ByteArray.extract_mk]
  congr 1
  simp
  rw [List.take_of_length_le (by rw [List.length_drop]; omega)]
set_option maxRecDepth 100000 in
set_option maxHeartbeats 4000000 in
theorem rwake_off (h : Rf B g S w fs) (hoff : S.on = false) (A : Option Addr) (cap : Nat) (cs : List UInt8) (hcs : cs.length ≤ 9223372036854775807) (hsrc : ∀ w', Fr w w' fs → Src w' (.slice A cs.length cap) cs) :
    Calls Try.prog 18 #[.pointer (some ⟨g, 0, none⟩), .slice A cs.length cap] w fun e w' => e = .returned (.tuple #[]) ∧ RAfter w w' B g { S with fl := woken S.fl S.un cs, un := [], on := true } fs := by
  obtain ⟨vf, vw, hg0⟩ := rf_cells h
  have c2 := hg0.cell 2
  rw [hoff] at c2
  obtain ⟨n, cf, cw, bf, Aw, ok, few, pos, hn, hn4, hL, hBg, hBf, hbg, nu, nb, hfs, hW⟩ := rf_open h
  subst hn
  have hgl := hL.1.lt
  have hbl : bf < w.heap.size := hL.2.1.lt bf rfl |>.2
  clear hg0 h
  go_enter Try.func18, Try.ntmps18
  go_wp2
  go_loopw [4] (fun i wr => ∃ k : Nat, k ≤ S.un.length ∧ i = .int .i64 k ∧ Lp w B g S.fl.length cf cw bf Aw S.un S.on S.fuse (wokenTo S.fl S.un cs k) wr) (fun i _ => S.un.length - (RowKit.intOf i).toNat)
  case atStart => exact ⟨0, by omega, rfl, hL⟩
  case round =>
    obtain ⟨k, hk, rfl, hK⟩ := hrel
    have a0 := hK.1.cell 0
    have a1 := hK.1.cell 1
    by_cases hlt : k < S.un.length
    · obtain ⟨x, hx⟩ : ∃ x, S.un[k]? = some x := ⟨_, List.getElem?_eq_getElem hlt⟩
      obtain ⟨bw, rfl, d0, d1, hbw⟩ := hW wr _ k x hK hx
      have HTE := Lib.hid (fun m hm => tear_at S.fl S.un cs k x hx m hm)
      have hxo := ok.2.1 x (List.mem_of_getElem? hx)
      have hs := hsrc wr (hK.2.2.2.more (fun x hx _ => by rw [hfs]; simp at hx; simp [hx]))
      have hfl := wokenTo_length S.fl S.un cs k
      have hrow : ((wokenTo S.fl S.un cs k).getD x.1 []).length = 128 := by
        rw [List.getD_eq_getElem?_getD, List.getElem?_eq_getElem (by rw [hfl]; exact hxo.1)]
        exact wokenTo_rows cs ok.1 ok.2.1 k (by omega) _ (List.getElem_mem _)
      have hcell : wr.cell? ⟨bf, x.1, none⟩ = some (.string ⟨((wokenTo S.fl S.un cs k).getD x.1 []).toArray⟩) := by
        rw [hK.2.1.cellAt x.1 (by omega), List.getElem?_map, List.getD_eq_getElem?_getD, List.getElem?_eq_getElem (by rw [hfl]; exact hxo.1)]
        rfl
      have hfz := hK.2.1.frozenAt x.1
      have hgw : g < wr.heap.size := hK.1.lt
      have hbw2 : bf < wr.heap.size := (hK.2.1.lt bf rfl).2
      generalize wokenTo S.fl S.un cs k = F at *
      generalize hNX : wokenTo S.fl S.un cs (k + 1) = F2 at *
      obtain ⟨q, l⟩ := x
      simp only at d0 d1 hcell hfz hxo hrow
      generalize hR : F.getD q [] = r at *
      have hl := hxo.2
      have hqI : (q : Int) < S.fl.length := by have := hxo.1; omega
      have HPUT := Lib.hid (fun (t : List UInt8) => lp_below (w' := ((wr.setCell ⟨bf, q, none⟩ (.string ⟨t.toArray⟩)).alloc (.cells #[.int .i64 q, .string ⟨l.toArray⟩] 96)).drew) (lp_put hK hbg nb q t) (((Below.refl _ _).alloc (Nat.le_refl _) _).trans ⟨rfl, rfl, rfl, Nat.le_refl _, fun _ _ => rfl⟩))
      have e0 := fun (wa : World) (b : Below wr.heap.size wr wa) => (b.cell (p := ⟨g, 0, none⟩) hgw).trans a0
      have e1 := fun (wa : World) (b : Below wr.heap.size wr wa) => (b.cell (p := ⟨bf, q, none⟩) hbw2).trans hcell
      have e2 := fun (wa : World) (b : Below wr.heap.size wr wa) => (b.frozen (p := ⟨bf, q, none⟩) hbw2).trans hfz
      clear hxo hK hx hR
      rcases Nat.lt_or_ge k cs.length with hkc | hkc
      · obtain ⟨b, off, e, hcc⟩ := src_at hs k hkc
        subst e
        have hgd : cs.getD k 0 = cs[k] := by rw [List.getD_eq_getElem?_getD, List.getElem?_eq_getElem hkc]; rfl
        rw [hgd] at HTE
        generalize cs[k] = c at *
        by_cases hc1 : c = 1
        · subst hc1
          have hkp : keep 1 = 128 := rfl
          replace hcc : wr.cell? ⟨b, off + k, none⟩ = some (.int .u8 1) := hcc
          have hcc2 : (wr.alloc (.cells #[.int .i64 q, .string ⟨l.toArray⟩] 96)).cell? ⟨b, off + k, none⟩ = _ := (((Below.refl wr.heap.size wr).alloc (Nat.le_refl _) (.cells #[.int .i64 q, .string ⟨l.toArray⟩] 96)).cell (p := ⟨b, off + k, none⟩) (cell_lt hcc)).trans hcc
          obtain ⟨wa, hwa⟩ : ∃ wa : World, wa = wr.alloc (.cells #[.int .i64 q, .string ⟨l.toArray⟩] 96) := ⟨_, rfl⟩
          have ba : Below wr.heap.size wr (wr.alloc (.cells #[.int .i64 q, .string ⟨l.toArray⟩] 96)).drew := ((Below.refl _ _).alloc (Nat.le_refl _) _).trans ⟨rfl, rfl, rfl, Nat.le_refl _, fun _ _ => rfl⟩
          have g0 := e0 _ ba
          have g1 := e1 _ ba
          have g2 := e2 _ ba
          have hx1 := cut_head l 128
          have hx2 := cut_rest r 128 hrow
          have hadd := fun W : World => run_string_add_sum (P := Try.prog) (w := W) ⟨(l.take 128).toArray⟩ ⟨(r.drop 128).toArray⟩ (by show (l.take 128).length + (r.drop 128).length ≤ _; rw [List.length_take, List.length_drop]; omega)
          rw [ByteArray.mk_append_mk] at hadd
          have HP := Lib.hid (HPUT.out (l.take 128 ++ r.drop 128))
          rw [← HTE.out 128 hkp, show l.take 128 ++ r.drop 128 = l.take 128 by rw [List.drop_eq_nil_of_le (by omega), List.append_nil]] at HP
          go_wp2_with fail
          refine wp_region_still_tail 22 (by kernel_rfl) (by kernel_rfl) ?_
          simp only [List.take_succ_cons, List.take_zero, List.drop_succ_cons, List.drop_zero]
          show wpStill _ _ (World.drew _) (fun a' => wpList _ _ _ _ a' (World.drew _)) _ _
          repeat still_step
          refine wpStill_nil ?_
          show wpList _ _ _ _ _ (World.drew _)
          go_wp2
          go_roundw
          case rel => exact ⟨k + 1, by omega, by go_num, by rw [hNX]; exact HP.out⟩
          case measure => simp [RowKit.intOf]; omega
        · have hkp : keep c = c.toNat % 128 := by unfold keep; rw [if_neg hc1]
          have hcn : (c.toNat : Int) ≠ 1 := fun h => hc1 (UInt8.toNat_inj.1 (by show c.toNat = 1; omega))
          have hcb := c.toNat_lt
          generalize c.toNat = cn at *
          have hcc2 : (wr.alloc (.cells #[.int .i64 q, .string ⟨l.toArray⟩] 96)).cell? ⟨b, off + k, none⟩ = _ := (((Below.refl wr.heap.size wr).alloc (Nat.le_refl _) (.cells #[.int .i64 q, .string ⟨l.toArray⟩] 96)).cell (p := ⟨b, off + k, none⟩) (cell_lt hcc)).trans hcc
          have hcq : ((cn : Int) == 1) = false := beq_eq_false_iff_ne.2 hcn
          have htm : (cn : Int).tmod 128 = ((cn % 128 : Nat) : Int) := by rw [Int.tmod_eq_emod_of_nonneg (by omega)]; omega
          have hm128 : cn % 128 < 128 := Nat.mod_lt _ (by omega)
          generalize cn % 128 = m at *
          have hmI : (m : Int) ≤ 128 := by omega
          obtain ⟨wa, hwa⟩ : ∃ wa : World, wa = wr.alloc (.cells #[.int .i64 q, .string ⟨l.toArray⟩] 96) := ⟨_, rfl⟩
          have ba : Below wr.heap.size wr (wr.alloc (.cells #[.int .i64 q, .string ⟨l.toArray⟩] 96)).drew := ((Below.refl _ _).alloc (Nat.le_refl _) _).trans ⟨rfl, rfl, rfl, Nat.le_refl _, fun _ _ => rfl⟩
          have g0 := e0 _ ba
          have g1 := e1 _ ba
          have g2 := e2 _ ba
          have hx1 := cut_head l m
          have hx2 := cut_rest r m hrow
          have hadd := fun W : World => run_string_add_sum (P := Try.prog) (w := W) ⟨(l.take m).toArray⟩ ⟨(r.drop m).toArray⟩ (by show (l.take m).length + (r.drop m).length ≤ _; rw [List.length_take, List.length_drop]; omega)
          rw [ByteArray.mk_append_mk] at hadd
          have HP := Lib.hid (HPUT.out (l.take m ++ r.drop m))
          rw [← HTE.out m hkp] at HP
          go_wp2_with fail
          refine wp_region_still_tail 22 (by kernel_rfl) (by kernel_rfl) ?_
          simp only [List.take_succ_cons, List.take_zero, List.drop_succ_cons, List.drop_zero]
          show wpStill _ _ (World.drew _) (fun a' => wpList _ _ _ _ a' (World.drew _)) _ _
          repeat still_step
          refine wpStill_nil ?_
          show wpList _ _ _ _ _ (World.drew _)
          go_wp2
          go_roundw
          case rel => exact ⟨k + 1, by omega, by go_num, by rw [hNX]; exact HP.out⟩
          case measure => simp [RowKit.intOf]; omega
      · have hgd : cs.getD k 0 = 0 := by rw [List.getD_eq_getElem?_getD, List.getElem?_eq_none hkc]; rfl
        rw [hgd] at HTE
        have hkp : keep 0 = 0 := rfl
        obtain ⟨wa, hwa⟩ : ∃ wa : World, wa = wr.alloc (.cells #[.int .i64 q, .string ⟨l.toArray⟩] 96) := ⟨_, rfl⟩
        have ba : Below wr.heap.size wr (wr.alloc (.cells #[.int .i64 q, .string ⟨l.toArray⟩] 96)).drew := ((Below.refl _ _).alloc (Nat.le_refl _) _).trans ⟨rfl, rfl, rfl, Nat.le_refl _, fun _ _ => rfl⟩
        have g0 := e0 _ ba
        have g1 := e1 _ ba
        have g2 := e2 _ ba
        have hx1 := cut_head l 0
        have hx2 := cut_rest r 0 hrow
        have hadd := fun W : World => run_string_add_sum (P := Try.prog) (w := W) ⟨(l.take 0).toArray⟩ ⟨(r.drop 0).toArray⟩ (by show (l.take 0).length + (r.drop 0).length ≤ _; rw [List.length_take, List.length_drop]; omega)
        rw [ByteArray.mk_append_mk] at hadd
        have HP := Lib.hid (HPUT.out (l.take 0 ++ r.drop 0))
        rw [← HTE.out 0 hkp, show l.take 0 ++ r.drop 0 = r by simp] at HP
        go_wp2_with fail
        refine wp_region_still_tail 22 (by kernel_rfl) (by kernel_rfl) ?_
        simp only [List.take_succ_cons, List.take_zero, List.drop_succ_cons, List.drop_zero]
        show wpStill _ _ (World.drew _) (fun a' => wpList _ _ _ _ a' (World.drew _)) _ _
        repeat still_step
        refine wpStill_nil ?_
        show wpList _ _ _ _ _ (World.drew _)
        go_wp2
        go_roundw
        case rel => exact ⟨k + 1, by omega, by go_num, by rw [hNX]; exact HP.out⟩
        case measure => simp [RowKit.intOf]; omega
    · have hall : k = S.un.length := by omega
      subst hall
      have hend := lp_end (g := g) hK ok rfl (by omega) (wokenTo_length _ _ _ _) (wokenTo_rows cs ok.1 ok.2.1 _ (Nat.le_refl _)) hBg hbg ok.2.2.2
      rw [← hfs] at hend
      obtain ⟨f1, q1, q2, q3⟩ := hend
      have hfin := rf_flags (w' := (wr.setCell ⟨g, 1, none⟩ (.slice none 0 0)).setCell ⟨g, 2, none⟩ (.bool true)) q1 true S.fuse ok.2.2.2 ((Fr.refl _ [g]).setCell (by simp) _) (fun a b hc => hc.put 2 _)
      have HX := Lib.hid (RAfter.next q2 q3 hfin)
      have a1f := hK.1.free 1
      have a2 := hK.1.cell 2
      have a2f := hK.1.free 2
      clear hK hfin q1 q2 q3
      go_wp2
      refine bodyPost_end (results_none rfl _ _ _) rfl ?_
      exact ⟨rfl, by rw [← hfs]; exact HX.out⟩
theorem rwake_walk (h : Rf B g S w fs) (v : Value) (cs : List UInt8) (hcs : cs.length ≤ 9223372036854775807) (hsrc : ∀ w', Fr w w' fs → Src w' v cs) : Calls Try.prog 18 #[.pointer (some ⟨g, 0, none⟩), v] w fun e w' => e = .returned (.tuple #[]) ∧ RAfter w w' B g (wakeS S cs) fs := by
  cases hon : S.on with
  | true =>
    have e : wakeS S cs = S := by unfold wakeS; rw [if_pos hon]
    rw [e]
    exact rwake_on h hon v
  | false =>
    have e : wakeS S cs = { S with fl := woken S.fl S.un cs, un := [], on := true } := by unfold wakeS; rw [if_neg (by simp [hon])]
    rw [e]
    obtain ⟨A, cap, rfl⟩ := src_form (hsrc w (Fr.refl _ _))
    exact rwake_off h hon A cap cs hcs hsrc
end
end RW
end Go.Proofs.Ytjdkmafbogaboaa
