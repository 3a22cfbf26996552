/- A disk wakes: (*disk.Disk).settle, (*disk.Disk).Wake. -/
import Derived.Test.YtkhdidhpcdlmcaaDiskFlush
import Derived.Test.YtkhdidhpcdlmcaaSrc
namespace Go.Proofs.Ytkhdidhpcdlmcaa
open Go.RowKit Go.Lib MM MF DM DK FL DW DF MS
namespace DU
/-- What settle leaves. -/
def Settled (w : World) (gf k : Nat) (l : List UInt8) (c : UInt8) (F : List (List UInt8)) (e : Ending) (w' : World) : Prop :=
  e = .returned (.tuple #[]) ∧ Row w' gf 71 (byteCells (tear F (k, l) c).flatten) ∧ Fr w w' [gf]
theorem take_range {w : World} {b : Nat} {l : List UInt8} (h : w.rangeAt b 1 (byteCells l)) (m : Nat) : w.rangeAt b 1 (byteCells (l.take m)) := by
  intro j v hj
  refine h j v ?_
  unfold byteCells at *
  rw [List.map_take, List.getElem?_take] at hj
  split at hj
  · exact hj
  · cases hj
theorem put_part {w : World} {g k m : Nat} {F : List (List UInt8)} {l : List UInt8} (h : Row w g 71 (splice (byteCells F.flatten) (k * 128) (byteCells (l.take m)))) (hF : ∀ r ∈ F, r.length = 128) (hk : k < F.length) (hl : l.length = 128) (hm : m ≤ 128) :
    Row w g 71 (byteCells (F.set k (l.take m ++ (F.getD k []).drop m)).flatten) := by
  have hlm : (l.take m).length = m := by rw [List.length_take]; omega
  have e := flat_splice F k (l.take m) hk hF (by omega)
  rw [hlm] at e
  have e2 : F.getD k [] = F[k] := by rw [List.getD_eq_getElem?_getD, List.getElem?_eq_getElem hk]; rfl
  rw [e2, ← e]
  rw [Nat.mul_comm] at h
  unfold byteCells at *
  rw [map_splice]
  exact h
theorem tear_zero {F : List (List UInt8)} {k : Nat} {l : List UInt8} (hk : k < F.length) : tear F (k, l) 0 = F := by
  unfold tear
  rw [keep_zero, List.take_zero, List.nil_append, List.drop_zero, List.getD_eq_getElem?_getD, List.getElem?_eq_getElem hk]
  simp
set_option maxRecDepth 100000 in
set_option maxHeartbeats 1000000 in
theorem settle_walk (w : World) (g gn cn gf cf n k : Nat) (vu b f : Value) (F : List (List UInt8)) (l : List UInt8) (c : UInt8)
    (hg : Has w g 68 [.slice (some ⟨gn, 0, none⟩) n cn, .slice (some ⟨gf, 0, none⟩) n cf, vu, b, f]) (hr : Row w gf 71 (byteCells F.flatten)) (hF : ∀ r ∈ F, r.length = 128) (hn : F.length = n) (hk : k < n) (hl : l.length = 128) :
    Calls Try.prog 55 #[.pointer (some ⟨g, 0, none⟩), .agg (Value.int .i64 k :: byteCells l).toArray, .int .u8 c.toNat] w (Settled w gf k l c F) := by
  have hr' := hr
  have hcl : (Value.int .i64 k :: byteCells l).length = 129 := by rw [List.length_cons, byteCells_length, hl]
  by_cases h0 : c = 0
  · subst h0
    have he : Settled w gf k l 0 F (.returned (.tuple #[])) (w.alloc (.cells (Value.int .i64 k :: byteCells l).toArray 76)) := ⟨rfl, by rw [tear_zero (by omega)]; exact hr.kept ((Fr.refl w []).alloc _) (by simp), (Fr.refl w _).alloc _⟩
    have HE := Lib.hid he
    clear he hg hr hr' hcl hl hn
    go_enter Try.func55, Try.ntmps55
    go_wp2
    go_end0
    exact HE.out
  · have hkeep : tear F (k, l) c = F.set k (l.take (keep c) ++ (F.getD k []).drop (keep c)) := rfl
    have hkl := keep_le c
    have hc0 : (c.toNat : Int) ≠ 0 := by
      intro e
      apply h0
      apply UInt8.toNat_inj.1
      simpa using e
    have hc0b : ((c.toNat : Int) == 0) = false := beq_eq_false_iff_ne.2 hc0
    have hga := hg.grow (Obj.cells (Value.int .i64 k :: byteCells l).toArray 76)
    have a1 : (w.alloc (Obj.cells (Value.int .i64 k :: byteCells l).toArray 76)).drew.cell? ⟨g, 1, none⟩ = some (.slice (some ⟨gf, 0, none⟩) n cf) := hga.cell 1
    have hw : Row (w.alloc (Obj.cells (Value.int .i64 k :: byteCells l).toArray 76)).drew w.heap.size 76 (Value.int .i64 k :: byteCells l) := Row.of_has (show Has _ _ _ _ from heap_alloc_new _ _)
    have ak : (w.alloc (Obj.cells (Value.int .i64 k :: byteCells l).toArray 76)).drew.cell? ⟨w.heap.size, 0, none⟩ = some (.int .i64 k) := hw.cell 0 (by simp)
    have hsrc := take_range (hw.range 1 (byteCells l) (fun j hj => by rw [Nat.add_comm]; rfl)) (keep c)
    have hrd : Row (w.alloc (Obj.cells (Value.int .i64 k :: byteCells l).toArray 76)).drew gf 71 (byteCells F.flatten) := hr.kept (((Fr.refl w []).alloc _).drew) (by simp)
    have hfr : Fr w (w.alloc (Obj.cells (Value.int .i64 k :: byteCells l).toArray 76)).drew [gf] := ((Fr.refl w _).alloc _).drew
    have hbl : (byteCells (l.take (keep c))).length = keep c := by rw [byteCells_length, List.length_take]; omega
    have hfit : k * 128 + (byteCells (l.take (keep c))).length ≤ (byteCells F.flatten).length := by
      rw [hbl, byteCells_length, flat_length F hF]; omega
    have hend : ∀ w', Row w' gf 71 (splice (byteCells F.flatten) (k * 128) (byteCells (l.take (keep c)))) → Fr (w.alloc (Obj.cells (Value.int .i64 k :: byteCells l).toArray 76)).drew w' [gf] → Settled w gf k l c F (.returned (.tuple #[])) w' :=
      fun w' q1 q2 => ⟨rfl, by rw [hkeep]; exact put_part q1 hF (by omega) hl hkl, hfr.trans q2 (by simp)⟩
    have hkI : (k : Int) < n := by omega
    have hk0 : (0 : Int) ≤ k := by omega
    have hs1 : (Try.prog.info? 5).map (·.size) = some 1 := by kernel_rfl
    have HEND := Lib.hid hend
    have HBL := Lib.hid hbl
    have HS1 := Lib.hid hs1
    by_cases h1 : c = 1
    · have hc1 : (c.toNat : Int) = 1 := by rw [h1]; rfl
      have hk1 : keep c = 128 := by rw [h1]; rfl
      rw [hk1] at hsrc hfit HEND HBL
      rw [hc1]
      clear hend hbl hs1 hkeep hg hga hr hr' hcl hl hn hc1 hk1 hw hfr h0 h1 hc0 hc0b
      go_enter Try.func55, Try.ntmps55
      go_wp2
      refine wp_region_still_tail 13 (by kernel_rfl) (by kernel_rfl) ?_
      simp only [List.take_succ_cons, List.take_zero, List.drop_succ_cons, List.drop_zero]
      show wpStill _ _ (World.drew (World.alloc w _)) (fun a' => wpList _ _ _ _ a' (World.drew (World.alloc w _))) _ _
      repeat still_step
      refine wpStill_nil ?_
      show wpList _ _ _ _ _ (World.drew (World.alloc w _))
      go_wp2_with (first
        | (refine wpList_copy_at rfl (.tmp 24) (.tmp 27) _ _ rfl 5 Try.underlying23 HS1.out gf (k * 128) 128 128 w.heap.size 1 128 128 rfl rfl (byteCells (l.take 128)) 71 _ hrd (HBL.out.trans (Nat.min_self _).symm) hsrc (byteCells_one _) hfit ?_
           intro w2 hw2 hf2
           have HE := Lib.hid (HEND.out w2 hw2 hf2)
           clear hw2 hf2))
      go_end0
      exact HE.out
    · have hc1 : (c.toNat : Int) ≠ 1 := by
        intro e
        apply h1
        apply UInt8.toNat_inj.1
        have : ((1 : UInt8).toNat : Int) = 1 := rfl
        omega
      have hc1b : ((c.toNat : Int) == 1) = false := beq_eq_false_iff_ne.2 hc1
      have hm : (c.toNat : Int) % 128 = ((keep c : Nat) : Int) := by unfold keep; rw [if_neg h1]; omega
      have hmt : c.toNat % 128 = keep c := by unfold keep; rw [if_neg h1]
      have hcn : c.toNat < 256 := c.toNat_lt
      have hcn2 : (0 : Int) ≤ c.toNat := by omega
      generalize keep c = m at *
      have hmI : (m : Int) ≤ 128 := by omega
      have hm0 : (0 : Int) ≤ m := by omega
      generalize c.toNat = q at *
      clear hend hbl hs1 hkeep hg hga hr hr' hcl hl hn hw hfr h0 h1
      go_enter Try.func55, Try.ntmps55
      go_wp2
      refine wp_region_still_tail 13 (by kernel_rfl) (by kernel_rfl) ?_
      simp only [List.take_succ_cons, List.take_zero, List.drop_succ_cons, List.drop_zero]
      show wpStill _ _ (World.drew (World.alloc w _)) (fun a' => wpList _ _ _ _ a' (World.drew (World.alloc w _))) _ _
      repeat still_step
      refine wpStill_nil ?_
      show wpList _ _ _ _ _ (World.drew (World.alloc w _))
      go_wp2_with (first
        | (refine wpList_copy_at rfl (.tmp 24) (.tmp 27) _ _ rfl 5 Try.underlying23 HS1.out gf (k * 128) m 128 w.heap.size 1 m 128 rfl rfl (byteCells (l.take m)) 71 _ hrd (HBL.out.trans (Nat.min_self _).symm) hsrc (byteCells_one _) hfit ?_
           intro w2 hw2 hf2
           have HE := Lib.hid (HEND.out w2 hw2 hf2)
           clear hw2 hf2))
      go_end0
      exact HE.out

/-- The relations of the two loops: so many writes have had their fates; so many rows have gone back. -/
def Rel1 (w : World) (gf : Nat) (f : List (List UInt8)) (u : List (Nat × List UInt8)) (cs : List UInt8) (i : Value) (wr : World) : Prop :=
  ∃ j : Nat, j ≤ u.length ∧ i = .int .i64 j ∧ Row wr gf 71 (byteCells (wokenTo f u cs j).flatten) ∧ Fr w wr [gf]
def Rel2 (w : World) (gn gf : Nat) (src dst : List (List UInt8)) (u : List (Nat × List UInt8)) (i : Value) (wr : World) : Prop :=
  ∃ j : Nat, j ≤ u.length ∧ i = .int .i64 j ∧ Row wr gn 71 (byteCells (copyTo src dst (u.take j)).flatten) ∧ Row wr gf 71 (byteCells src.flatten) ∧ Fr w wr [gn, gf]
/-- A fate that is read. -/
theorem src_form {w : World} {v : Value} {l : List UInt8} (h : Src w v l) : ∃ A cap, v = .slice A l.length cap := by
  rcases h with ⟨rfl, p, cap, rfl⟩ | ⟨_, b, off, cap, rfl, _⟩
  · exact ⟨p, cap, rfl⟩
  · exact ⟨_, cap, rfl⟩
theorem src_at {w : World} {A : Option Addr} {cap : Nat} {l : List UInt8} (h : Src w (.slice A l.length cap) l) (j : Nat) (hj : j < l.length) : ∃ b off, A = some ⟨b, off, none⟩ ∧ w.cell? ⟨b, off + j, none⟩ = some (.int .u8 l[j].toNat) := by
  rcases h with ⟨rfl, _⟩ | ⟨_, b, off, cap', hv, _, _, _, hc⟩
  · simp at hj
  · injection hv with h1
    exact ⟨b, off, h1, hc j hj⟩

theorem src_cell {w : World} {b off cap : Nat} {l : List UInt8} (h : Src w (.slice (some ⟨b, off, none⟩) l.length cap) l) (j : Nat) (hj : j < l.length) : w.cell? ⟨b, off + j, none⟩ = some (.int .u8 l[j].toNat) := by
  obtain ⟨b', off', e, hc⟩ := src_at h j hj
  injection e with e
  injection e with e1 e2
  rw [e1, e2]
  exact hc
set_option maxRecDepth 100000 in
set_option maxHeartbeats 4000000 in
theorem wake_off (w : World) (B g : Nat) (S : St) (fs : List Nat) (h : Dk w B g S fs) (hoff : S.on = false) (A : Option Addr) (cap : Nat) (cs : List UInt8) (hcs : cs.length ≤ 9223372036854775807) (hsrc : ∀ w', Fr w w' fs → Src w' (.slice A cs.length cap) cs) :
    Calls Try.prog 19 #[.pointer (some ⟨g, 0, none⟩), .slice A cs.length cap] w fun e w' => e = .returned (.tuple #[]) ∧ After w w' B g { S with fl := woken S.fl S.un cs, un := [], on := true } fs := by
  obtain ⟨gn, cn, gf, cf, n, vu, h1, h2, hn, h3, h3', h4, h5, h6, h7, h8, n1, n2, n3, n4, n5, hg, hnn, hfl, hu, b1, b2, b3, hfs⟩ := h.opened
  obtain ⟨Au, capu, rfl, hul, hform⟩ := own_slice hu
  obtain ⟨c0, c1, c2, c3, c4, f0, f1, f2, f3, f4⟩ := head_cells hg
  rw [hoff] at c3
  have hgw : g < w.heap.size := hg.lt
  have hnw : gn < w.heap.size := hnn.lt
  have hfw : gf < w.heap.size := hfl.lt
  have hgfs : ∀ x ∈ [gf], x < w.heap.size → x ∈ fs := by intro x hx _; rw [hfs]; simp at hx; simp [hx]
  obtain ⟨Z, hZ⟩ : ∃ Z, Z = List.replicate 128 (Value.int .u8 0) := ⟨_, rfl⟩
  have hzw := zero_write Z hZ
  have hzl : (Value.int .i64 0 :: Z).length = 129 := by rw [List.length_cons, hZ, List.length_replicate]
  have HZL := Lib.hid hzl
  have HFS := Lib.hid hfs
  have HN := Lib.hid hn
  have HFORM := Lib.hid hform
  have HSRC := Lib.hid hsrc
  have HOFF := Lib.hid hoff
  have HGFS := Lib.hid hgfs
  clear hfs hn hform hZ hzl hsrc hoff hgfs
  go_enter Try.func19, Try.ntmps19
  go_wp2
  go_loopw [22] (fun i wr => Rel1 w gf S.fl S.un cs i wr) (fun i _ => S.un.length - (RowKit.intOf i).toNat)
  case atStart => exact ⟨0, Nat.zero_le _, rfl, hfl, Fr.refl _ _⟩
  case round =>
    obtain ⟨j, hj, rfl, hrow, hfr⟩ := hrel
    have hgr := hfr.has hg (by simpa using n2)
    by_cases hlt : j < S.un.length
    · obtain ⟨gu, rfl, hru, hob⟩ := HFORM.out (by omega)
      have hguw : gu < w.heap.size := hru.lt
      have hgug : gu ≠ g ∧ gu ≠ gn ∧ gu ≠ gf := ⟨fun e => n3 (by rw [hob, e]), fun e => n4 (by rw [hob, e]), fun e => n5 (by rw [hob, e])⟩
      obtain ⟨hk, hl⟩ := h1.2.1 _ (List.getElem_mem hlt)
      have hld := wcells_range (hru.kept hfr (by simpa using hgug.2.2)) (fun x hx => (h1.2.1 x hx).2) j hlt
      have hstep : wokenTo S.fl S.un cs (j + 1) = tear (wokenTo S.fl S.un cs j) S.un[j] (cs.getD j 0) := by rw [wokenTo, getD_mem hlt]
      have hwl := wokenTo_length S.fl S.un cs j
      have hwr := wokenTo_rows cs h1.1 h1.2.1 j (by omega)
      have hpair : S.un[j] = (S.un[j].1, S.un[j].2) := rfl
      rw [hpair] at hstep
      generalize S.un[j].2 = l at *
      generalize S.un[j].1 = k at *
      generalize hfp : wokenTo S.fl S.un cs (j + 1) = F' at *
      have HFP := Lib.hid hfp
      clear hfp
      generalize wokenTo S.fl S.un cs j = F at *
      have hkn : k < n := by rw [HN.out]; exact hk
      have hFn : F.length = n := by rw [HN.out]; exact hwl
      have hcl : (Value.int .i64 k :: byteCells l).length = 129 := by rw [List.length_cons, byteCells_length, hl]
      have hwc : (Try.prog.info? 76).map (·.size) = some (Value.int .i64 k :: byteCells l).length := by rw [hcl]; kernel_rfl
      have hone : ∀ v ∈ (Value.int .i64 k :: byteCells l), v.oneCell' = true := by intro v hv; rcases List.mem_cons.1 hv with rfl | hv; rfl; exact byteCells_one l v hv
      have HWC := Lib.hid hwc
      have HONE := Lib.hid hone
      have HCL := Lib.hid hcl
      have HSTEP := Lib.hid hstep
      have HF := Lib.hid hwr
      have HL := Lib.hid hl
      have HFN := Lib.hid hFn
      clear hwc hone hcl hstep hwr hl hpair hob hFn hwl
      rcases Nat.lt_or_ge j cs.length with hjc | hjc
      · obtain ⟨b, off, rfl, _⟩ := src_at (HSRC.out w (Fr.refl _ _)) j hjc
        have hcc : cs.getD j 0 = cs[j] := by rw [List.getD_eq_getElem?_getD, List.getElem?_eq_getElem hjc]; rfl
        have HCS := Lib.hid hcc
        clear hcc
        generalize hcj : cs[j] = c at *
        have HCJ := Lib.hid hcj
        clear hcj
        go_wp2_with (first
          | (refine wpList_load_mid rfl _ (.tmp 25) rfl gu (j * 129) rfl (Value.int .i64 k :: byteCells l) _ hld Try.underlying76 rfl HWC.out ?_)
          | (refine wpList_store_all rfl _ (.tmp 5) (.tmp 26) rfl wr.heap.size (Value.int .i64 k :: byteCells l) rfl rfl 76 (Value.int .i64 0 :: Z) (Row.of_has (heap_alloc_new _ _)) (by rw [HCL.out, HZL.out]) HWC.out HONE.out ?_
             intro w2 hw2 hf2
             have hf2' := (((Fr.refl wr []).alloc (Obj.cells (Value.int IntKind.i64 0 :: Z).toArray 76)).trans hf2 (by simp))
             have hld2 := hw2.range 0 (Value.int .i64 k :: byteCells l) (fun i hi => by rw [Nat.zero_add])
             have hcell := src_cell (HSRC.out w2 ((hfr.trans hf2' (by simp)).more HGFS.out)) j hjc
             rw [HCJ.out] at hcell)
          | (refine wpList_load_mid rfl _ (.tmp 5) rfl wr.heap.size 0 rfl (Value.int .i64 k :: byteCells l) _ hld2 Try.underlying76 rfl HWC.out ?_)
          | fail)
        refine (settle_walk w2 g gn cn gf cf n k _ _ _ F l c (hf2'.has hgr (by simp)) (hrow.kept hf2' (by simp)) HF.out HFN.out hkn HL.out).mono ?_
        rintro e w3 ⟨rfl, hr3, hf3⟩
        rw [← HCS.out, ← HSTEP.out] at hr3
        have hfr3 : Fr w w3 [gf] := (hfr.trans hf2' (by simp)).trans hf3 (by simp)
        go_wp2
        go_roundw
        case rel => exact ⟨j + 1, by omega, by go_num, by rw [HFP.out]; exact hr3, hfr3⟩
        case measure => simp [RowKit.intOf]; omega
      · have hcc : cs.getD j 0 = 0 := by rw [List.getD_eq_getElem?_getD, List.getElem?_eq_none hjc]; rfl
        have HCS := Lib.hid hcc
        clear hcc
        go_wp2_with (first
          | (refine wpList_load_mid rfl _ (.tmp 25) rfl gu (j * 129) rfl (Value.int .i64 k :: byteCells l) _ hld Try.underlying76 rfl HWC.out ?_)
          | (refine wpList_store_all rfl _ (.tmp 5) (.tmp 26) rfl wr.heap.size (Value.int .i64 k :: byteCells l) rfl rfl 76 (Value.int .i64 0 :: Z) (Row.of_has (heap_alloc_new _ _)) (by rw [HCL.out, HZL.out]) HWC.out HONE.out ?_
             intro w2 hw2 hf2
             have hf2' := (((Fr.refl wr []).alloc (Obj.cells (Value.int IntKind.i64 0 :: Z).toArray 76)).trans hf2 (by simp))
             have hld2 := hw2.range 0 (Value.int .i64 k :: byteCells l) (fun i hi => by rw [Nat.zero_add]))
          | (refine wpList_load_mid rfl _ (.tmp 5) rfl wr.heap.size 0 rfl (Value.int .i64 k :: byteCells l) _ hld2 Try.underlying76 rfl HWC.out ?_)
          | fail)
        refine (settle_walk w2 g gn cn gf cf n k _ _ _ F l 0 (hf2'.has hgr (by simp)) (hrow.kept hf2' (by simp)) HF.out HFN.out hkn HL.out).mono ?_
        rintro e w3 ⟨rfl, hr3, hf3⟩
        rw [← HCS.out, ← HSTEP.out] at hr3
        have hfr3 : Fr w w3 [gf] := (hfr.trans hf2' (by simp)).trans hf3 (by simp)
        go_wp2
        go_roundw
        case rel => exact ⟨j + 1, by omega, by go_num, by rw [HFP.out]; exact hr3, hfr3⟩
        case measure => simp [RowKit.intOf]; omega
    · have hjm : j = S.un.length := by omega
      have hall : wokenTo S.fl S.un cs j = woken S.fl S.un cs := by rw [hjm]; rfl
      rw [hall] at hrow
      have hLn : (woken S.fl S.un cs).length = n := by rw [HN.out]; exact wokenTo_length _ _ _ _
      have hLr : ∀ r ∈ woken S.fl S.un cs, r.length = 128 := wokenTo_rows cs h1.1 h1.2.1 _ (Nat.le_refl _)
      have hwa : copyTo (woken S.fl S.un cs) S.now S.un = woken S.fl S.un cs := woken_all _ _ _
      have hn0 := hnn.kept hfr (by simpa using h8)
      generalize hwk : woken S.fl S.un cs = L at *
      have HWK := Lib.hid hwk
      clear hwk
      have HLN := Lib.hid hLn
      have HLR := Lib.hid hLr
      have HWA := Lib.hid hwa
      have HROW := Lib.hid hrow
      clear hLn hLr hwa hall hjm
      obtain ⟨w0, hw0⟩ : ∃ w0 : World, w0 = wr := ⟨_, rfl⟩
      subst hw0
      have e2 := hgr.cell 2
      go_wp2
      go_loopw [45] (fun i wr => Rel2 w gn gf L S.now S.un i wr) (fun i _ => S.un.length - (RowKit.intOf i).toNat)
      case atStart => exact ⟨0, Nat.zero_le _, rfl, by simpa [copyTo] using hn0, HROW.out, hfr.more (by simp)⟩
      case round =>
        obtain ⟨j, hj, rfl, hrown, hrowf, hfr2⟩ := hrel
        have hgr2 := hfr2.has hg (by simp; exact ⟨n1, n2⟩)
        by_cases hlt2 : j < S.un.length
        · obtain ⟨gu, rfl, hru, hob⟩ := HFORM.out (by omega)
          have hguw : gu < w.heap.size := hru.lt
          have hgug : gu ≠ g ∧ gu ≠ gn ∧ gu ≠ gf := ⟨fun e => n3 (by rw [hob, e]), fun e => n4 (by rw [hob, e]), fun e => n5 (by rw [hob, e])⟩
          obtain ⟨hk, hl⟩ := h1.2.1 _ (List.getElem_mem hlt2)
          have hld := wcells_range (hru.kept hfr2 (by simp; exact ⟨hgug.2.1, hgug.2.2⟩)) (fun x hx => (h1.2.1 x hx).2) j hlt2
          have htake : S.un.take (j + 1) = S.un.take j ++ [S.un[j]] := List.take_succ_eq_append_getElem hlt2
          have hcp := copyTo_snoc L S.now (S.un.take j) S.un[j]
          rw [← htake] at hcp
          generalize S.un[j].2 = l at *
          generalize S.un[j].1 = k at *
          have hkn : k < n := by rw [HN.out]; exact hk
          have hkL : k < L.length := by rw [HLN.out]; exact hkn
          have hsrc : L.getD k [] = L[k] := by rw [List.getD_eq_getElem?_getD, List.getElem?_eq_getElem hkL]; rfl
          rw [hsrc] at hcp
          have hrl : L[k].length = 128 := HLR.out _ (List.getElem_mem hkL)
          have hnr := row_range hrowf HLR.out k hkL
          generalize L[k] = r at *
          have hdl := copyTo_length L (S.un.take j) S.now
          rw [St.now_length] at hdl
          have hdr := copyTo_rows L HLR.out (S.un.take j) S.now h1.now_rows (fun x hx => by rw [HLN.out, HN.out]; exact (h1.2.1 x (List.mem_of_mem_take hx)).1)
          have hcl : (Value.int .i64 k :: byteCells l).length = 129 := by rw [List.length_cons, byteCells_length, hl]
          have hwc : (Try.prog.info? 76).map (·.size) = some (Value.int .i64 k :: byteCells l).length := by rw [hcl]; kernel_rfl
          have hsc : (Try.prog.info? 71).map (·.size) = some (byteCells r).length := by rw [byteCells_length, hrl]; kernel_rfl
          have hone : ∀ v ∈ (Value.int .i64 k :: byteCells l), v.oneCell' = true := by intro v hv; rcases List.mem_cons.1 hv with rfl | hv; rfl; exact byteCells_one l v hv
          have hwl : wr.heap.size ≥ w.heap.size := hfr2.size
          have HWC := Lib.hid hwc
          have HSC := Lib.hid hsc
          have HONE := Lib.hid hone
          have HCL := Lib.hid hcl
          have HCP := Lib.hid hcp
          have HDL := Lib.hid hdl
          have HDR := Lib.hid hdr
          have HRL := Lib.hid hrl
          clear hwc hsc hone hcl hcp hdl hdr hrl htake hob hl hsrc
          go_wp2_with (first
            | (refine wpList_load_mid rfl _ (.tmp 47) rfl gu (j * 129) rfl (Value.int .i64 k :: byteCells l) _ hld Try.underlying76 rfl HWC.out ?_)
            | (refine wpList_store_all rfl _ (.tmp 8) (.tmp 48) rfl wr.heap.size (Value.int .i64 k :: byteCells l) rfl rfl 76 (Value.int .i64 0 :: Z) (Row.of_has (heap_alloc_new _ _)) (by rw [HCL.out, HZL.out]) HWC.out HONE.out ?_
               intro w2 hw2 hf2
               have hf2' := (((Fr.refl wr []).alloc (Obj.cells (Value.int IntKind.i64 0 :: Z).toArray 76)).trans hf2 (by simp))))
          have hg2 := hf2'.has hgr2 (by simp)
          have a0 : w2.drew.cell? ⟨g, 0, none⟩ = _ := hg2.cell 0
          have a1 : w2.drew.cell? ⟨g, 1, none⟩ = _ := hg2.cell 1
          have ak : w2.drew.cell? ⟨wr.heap.size, 0, none⟩ = some (.int .i64 k) := hw2.cell 0 (by simp)
          have hkI : (k : Int) < n := by omega
          have hk0 : (0 : Int) ≤ k := by omega
          have hnr2 : w2.drew.rangeAt gf (k * 128) (byteCells r) := range_kept hnr hf2'.drew (by omega) (by simp)
          refine wp_region_still_tail 17 (by kernel_rfl) (by kernel_rfl) ?_
          simp only [List.take_succ_cons, List.take_zero, List.drop_succ_cons, List.drop_zero]
          show wpStill _ _ (World.drew w2) (fun a' => wpList _ _ _ _ a' (World.drew w2)) _ _
          repeat (first | (refine wpStill_load_mid rfl _ (.tmp 63) rfl gf (k * 128) rfl (byteCells r) _ hnr2 Try.underlying71 rfl HSC.out ?_) | still_step)
          refine wpStill_nil ?_
          show wpList _ _ _ _ _ (World.drew w2)
          have hrow2 := (hrown.kept hf2' (by simp)).drew
          have hrow2f := (hrowf.kept hf2' (by simp)).drew
          have hfit := fits_row HDR.out (k := k) (l := r) (by rw [HDL.out, ← HN.out]; exact hkn) HRL.out
          go_wp2_with (first
            | (refine wpList_store_at rfl _ (.tmp 65) (.tmp 64) rfl gn (k * 128) (byteCells r) rfl rfl 71 _ hrow2 hfit HSC.out (byteCells_one _) ?_
               intro w3 hw3 hf3))
          have hr3 := put_row hw3 HDR.out (by rw [HDL.out, ← HN.out]; exact hkn) HRL.out
          rw [← HCP.out] at hr3
          have hr3f := hrow2f.kept hf3 (by simpa using Ne.symm h8)
          have hfr3 : Fr w w3 [gn, gf] := ((hfr2.trans hf2' (by simp)).drew).trans hf3 (by simp)
          go_roundw
          case rel => exact ⟨j + 1, by omega, by go_num, hr3, hr3f, hfr3⟩
          case measure => simp [RowKit.intOf]; omega
        · have e3 := hgr2.cell 2
          have e3f := hgr2.free 2
          have e4 := hgr2.cell 3
          have e4f := hgr2.free 3
          have hall : S.un.take j = S.un := List.take_of_length_le (by omega)
          rw [hall, HWA.out] at hrown
          have hfin : After w ((wr.setCell ⟨g, 2, none⟩ (.slice none 0 0)).setCell ⟨g, 3, none⟩ (.bool true)) B g { S with fl := L, un := [], on := true } fs :=
            copied_after (w2 := wr) (L := L) (vu := .slice Au S.un.length capu) h1 HN.out h3 h4 h5 h6 h7 h8 n1 n2 HLR.out HLN.out ((hgr2.put 2 _).put 3 _) hrown hrowf b1 b2 b3 HFS.out hfr2 (((Fr.refl wr [g]).setCell (by simp) _).setCell (by simp) _)
          have HFIN := Lib.hid hfin
          clear hfin hall hrown
          go_wp2
          go_end0
          exact ⟨rfl, by rw [HWK.out]; exact HFIN.out⟩
theorem wake_on (w : World) (B g : Nat) (S : St) (fs : List Nat) (h : Dk w B g S fs) (hon : S.on = true) (v : Value) :
    Calls Try.prog 19 #[.pointer (some ⟨g, 0, none⟩), v] w fun e w' => e = .returned (.tuple #[]) ∧ w = w' := by
  obtain ⟨_, _, _, _, _, _, _, _, _, _, _, _, _, _, _, _, _, _, _, _, _, hg, _⟩ := h.opened
  have c3 : w.cell? ⟨g, 3, none⟩ = _ := hg.cell 3
  have c3' : w.cell? ⟨g, 3, none⟩ = some (.bool true) := by rw [← hon]; exact c3
  clear c3 hg
  go_enter Try.func19, Try.ntmps19
  go_wp2
  refine bodyPost_ret (results_none rfl _ _ _) rfl ?_
  exact ⟨rfl, rfl⟩
def wakeS (S : St) (cs : List UInt8) : St := if S.on = true then S else { S with fl := woken S.fl S.un cs, un := [], on := true }
theorem wake_walk (w : World) (B g : Nat) (S : St) (fs : List Nat) (h : Dk w B g S fs) (v : Value) (cs : List UInt8) (hcs : cs.length ≤ 9223372036854775807) (hsrc : ∀ w', Fr w w' fs → Src w' v cs) :
    Calls Try.prog 19 #[.pointer (some ⟨g, 0, none⟩), v] w fun e w' => e = .returned (.tuple #[]) ∧ After w w' B g (wakeS S cs) fs := by
  cases hon : S.on with
  | true =>
    have e : wakeS S cs = S := by unfold wakeS; rw [if_pos hon]
    rw [e]
    refine (wake_on w B g S fs h hon v).mono ?_
    rintro e w' ⟨he, rfl⟩
    exact ⟨he, After.refl h⟩
  | false =>
    obtain ⟨A, cap, rfl⟩ := src_form (hsrc w (Fr.refl _ _))
    have e : wakeS S cs = { S with fl := woken S.fl S.un cs, un := [], on := true } := by unfold wakeS; rw [if_neg (by simp [hon])]
    rw [e]
    exact wake_off w B g S fs h hon A cap cs hcs hsrc
end DU
end Go.Proofs.Ytkhdidhpcdlmcaa
