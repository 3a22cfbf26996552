/- What was written to a disk is flushed: (*disk.Disk).Flush. -/
import Derived.Test.YtkhdidhpcdlmcaaDiskWrite
import Derived.LoopTactic
namespace Go.Proofs.Ytkhdidhpcdlmcaa
open Go.RowKit Go.Lib MM MF DM DK FL DW
namespace DF
/-- The writes' slice, laid open. -/
theorem own_slice {w : World} {B : Nat} {e : TypeId} {size n : Nat} {v : Value} {xs : List Value} (h : w.ownsRow B e size v n xs) : ∃ A cap, v = .slice A n cap ∧ n ≤ 9223372036854775807 ∧ (0 < n → ∃ g, A = some ⟨g, 0, none⟩ ∧ Row w g e xs ∧ v.ownBlock = some g) := by
  rcases h.2 with ⟨rfl, rfl⟩ | ⟨g, cap, cur, rfl, hb, hg, h1, h2, hs, ht⟩
  · exact ⟨none, 0, rfl, by omega, fun h => by omega⟩
  · exact ⟨_, cap, rfl, by unfold maxLen at h2; omega, fun hn => ⟨g, rfl, (Row.owns h).1, rfl⟩⟩
/-- One write's cells. -/
theorem wcells_range {w : World} {g : Nat} {u : List (Nat × List UInt8)} (h : Row w g 76 (wcells u)) (hu : ∀ x ∈ u, x.2.length = 128) (j : Nat) (hj : j < u.length) : w.rangeAt g (j * 129) (Value.int .i64 u[j].1 :: byteCells u[j].2) := by
  refine h.range _ _ fun i hi => ?_
  have hl : ∀ r ∈ (u.map fun x => Value.int .i64 x.1 :: byteCells x.2), r.length = 129 := by
    intro r hr
    obtain ⟨x, hx, rfl⟩ := List.mem_map.1 hr
    rw [List.length_cons, byteCells_length, hu x hx]
  have hi' : i < 129 := by rw [List.length_cons, byteCells_length, hu _ (List.getElem_mem hj)] at hi; exact hi
  have := flat_at (u.map fun x => Value.int .i64 x.1 :: byteCells x.2) j (by simpa using hj) hl i hi'
  rw [Nat.mul_comm]
  unfold wcells
  rw [this, List.getElem_map]
/-- A row is stored over a row. -/
theorem put_row {w : World} {g k : Nat} {F : List (List UInt8)} {l : List UInt8} (h : Row w g 71 (splice (byteCells F.flatten) (k * 128) (byteCells l))) (hF : ∀ r ∈ F, r.length = 128) (hk : k < F.length) (hl : l.length = 128) : Row w g 71 (byteCells (F.set k l).flatten) := by
  rw [Nat.mul_comm] at h
  rw [← flat_set F k l hk hF hl]
  unfold byteCells at *
  rw [map_splice]
  exact h
theorem fits_row {k : Nat} {F : List (List UInt8)} {l : List UInt8} (hF : ∀ r ∈ F, r.length = 128) (hk : k < F.length) (hl : l.length = 128) : k * 128 + (byteCells l).length ≤ (byteCells F.flatten).length := by
  rw [byteCells_length, byteCells_length, flat_length F hF, hl]; omega
theorem row_range {w : World} {b : Nat} {t : TypeId} {L : List (List UInt8)} (h : Row w b t (byteCells L.flatten)) (hr : ∀ r ∈ L, r.length = 128) (k : Nat) (hk : k < L.length) : w.rangeAt b (k * 128) (byteCells L[k]) := by
  rw [Nat.mul_comm]; exact range_of_row h hr k hk

theorem range_kept {w w' : World} {b o : Nat} {cs : List Value} {fs : List Nat} (h : w.rangeAt b o cs) (k : Fr w w' fs) (hb : b < w.heap.size) (hn : b ∉ fs) : w'.rangeAt b o cs := fun j v hj => (k.cell hb hn).trans (h j v hj)
/-- All was copied, and no write is unflushed: a disk anew. -/
theorem copied_after {w1 w2 w3 : World} {B g gn cn gf cf n : Nat} {vu : Value} {S : St} {L : List (List UInt8)} {on : Bool} {fs : List Nat} (h1 : S.Ok) (hn : n = S.fl.length) (h3 : 1 ≤ n) (h4 : n ≤ cn) (h5 : n ≤ cf) (h6 : cn ≤ maxLen) (h7 : cf ≤ maxLen) (h8 : gn ≠ gf) (n1 : g ≠ gn) (n2 : g ≠ gf)
    (hL : ∀ r ∈ L, r.length = 128) (hLn : L.length = n) (hg : Has w3 g 68 [.slice (some ⟨gn, 0, none⟩) n cn, .slice (some ⟨gf, 0, none⟩) n cf, .slice none 0 0, .bool on, .int .i64 S.fuse])
    (hnn : Row w2 gn 71 (byteCells L.flatten)) (hfl : Row w2 gf 71 (byteCells L.flatten)) (b1 : B ≤ g) (b2 : B ≤ gn) (b3 : B ≤ gf) (hfs : fs = g :: gn :: gf :: vu.ownBlock.toList)
    (f2 : Fr w1 w2 [gn, gf]) (f3 : Fr w2 w3 [g]) : After w1 w3 B g { S with fl := L, un := [], on := on } fs := by
  refine ⟨[g, gn, gf], ⟨gn, cn, gf, cf, .slice none 0 0, ⟨hL, by simp, by show L.length ≤ 4096; rw [hLn, hn]; exact h1.2.2.1, h1.2.2.2⟩, by simp, by show 1 ≤ L.length; omega, by show L.length ≤ cn; omega, by show L.length ≤ cf; omega, h6, h7, h8, ?_, ?_, hfl.kept f3 (by simp; exact Ne.symm n2), World.ownsRow_nil _ _ _ _, b1, b2, b3, rfl⟩, ?_, ?_⟩
  · rw [← hLn] at hg; exact hg
  · exact hnn.kept f3 (by simp; exact Ne.symm n1)
  · rw [hfs]
    refine (f2.more (fun x hx _ => ?_)).trans f3 (by simp)
    simp at hx ⊢
    rcases hx with hx | hx
    · exact .inr (.inl hx)
    · exact .inr (.inr (.inl hx))
  · intro x hx
    rw [hfs]
    simp at hx ⊢
    rcases hx with hx | hx | hx
    · exact .inl (.inl hx)
    · exact .inl (.inr (.inl hx))
    · exact .inl (.inr (.inr (.inl hx)))

/-- The copying loop's relation: j writes' rows have gone over. -/
def Rel (w1 : World) (gf : Nat) (src dst : List (List UInt8)) (u : List (Nat × List UInt8)) (i : Value) (wr : World) : Prop :=
  ∃ j : Nat, j ≤ u.length ∧ i = .int .i64 j ∧ Row wr gf 71 (byteCells (copyTo src dst (u.take j)).flatten) ∧ Fr w1 wr [gf]

def flushE (S : St) : Int := if S.on = true ∧ opOk S = true then 0 else 8
def flushS (S : St) : St := if S.on = true then (if opOk S = true then { opS S with fl := S.now, un := [] } else opS S) else S
set_option maxRecDepth 100000 in
set_option maxHeartbeats 2000000 in
theorem flush_ok (w : World) (B g : Nat) (S : St) (fs : List Nat) (h : Dk w B g S fs) (hon : S.on = true) (hop : opOk S = true) :
    Calls Try.prog 58 #[.pointer (some ⟨g, 0, none⟩)] w fun e w' => e = .returned (.int .i64 0) ∧ After w w' B g { opS S with fl := S.now, un := [] } fs := by
  have HO := Lib.hid (operate_walk h hon)
  obtain ⟨_, _, _, _, _, _, _, _, _, _, _, _, _, _, _, _, _, _, _, _, _, hg0, _⟩ := h.opened
  have c3 := hg0.cell 3
  rw [hon] at c3
  have c3' : w.cell? ⟨g, 3, none⟩ = some (.bool true) := c3
  clear c3 hg0
  obtain ⟨Z, hZ⟩ : ∃ Z, Z = List.replicate 128 (Value.int .u8 0) := ⟨_, rfl⟩
  have hzw := zero_write Z hZ
  have HZ := Lib.hid hZ
  clear hZ
  go_enter Try.func58, Try.ntmps58
  go_wp2_with fail
  refine HO.out.mono ?_
  rintro e w1 ⟨rfl, fs1, d1, r1, m1⟩
  rw [hop]
  generalize hT : opS S = T at *
  have HT := Lib.hid hT
  clear hT
  obtain ⟨gn, cn, gf, cf, n, vu, h1, h2, hn, h3, h3', h4, h5, h6, h7, h8, n1, n2, n3, n4, n5, hg, hnn, hfl, hu, b1, b2, b3, hfs1⟩ := d1.opened
  obtain ⟨A, capu, rfl, hul, hform⟩ := own_slice hu
  obtain ⟨c0, c1, c2, c3, c4, f0, f1, f2, f3, f4⟩ := head_cells hg
  have hgw : g < w1.heap.size := hg.lt
  have hnw : gn < w1.heap.size := hnn.lt
  have hfw : gf < w1.heap.size := hfl.lt
  have HFS := Lib.hid hfs1
  have HN := Lib.hid hn
  have HFORM := Lib.hid hform
  clear hfs1 hn hform
  go_wp2
  go_loopw [22] (fun i wr => Rel w1 gf T.now T.fl T.un i wr) (fun i _ => T.un.length - (RowKit.intOf i).toNat)
  case atStart => exact ⟨0, Nat.zero_le _, rfl, by simpa [copyTo] using hfl, Fr.refl _ _⟩
  case round =>
    obtain ⟨j, hj, rfl, hrow, hfr⟩ := hrel
    have hgr := hfr.has hg (by simpa using n2)
    by_cases hlt : j < T.un.length
    · obtain ⟨gu, rfl, hru, hob⟩ := HFORM.out (by omega)
      have hguw : gu < w1.heap.size := hru.lt
      have hgug : gu ≠ g ∧ gu ≠ gn ∧ gu ≠ gf := ⟨fun e => n3 (by rw [hob, e]), fun e => n4 (by rw [hob, e]), fun e => n5 (by rw [hob, e])⟩
      obtain ⟨hk, hl⟩ := h1.2.1 _ (List.getElem_mem hlt)
      have hld := wcells_range (hru.kept hfr (by simpa using hgug.2.2)) (fun x hx => (h1.2.1 x hx).2) j hlt
      have htake : T.un.take (j + 1) = T.un.take j ++ [T.un[j]] := List.take_succ_eq_append_getElem hlt
      have hcp := copyTo_snoc T.now T.fl (T.un.take j) T.un[j]
      rw [← htake] at hcp
      generalize T.un[j].2 = l at *
      generalize T.un[j].1 = k at *
      have hkn : k < n := by rw [HN.out]; exact hk
      have hkn' : k < T.now.length := by rw [St.now_length]; exact hk
      have hsrc : T.now.getD k [] = T.now[k] := by rw [List.getD_eq_getElem?_getD, List.getElem?_eq_getElem hkn']; rfl
      rw [hsrc] at hcp
      have hrl : T.now[k].length = 128 := h1.now_rows _ (List.getElem_mem hkn')
      have hnr := row_range (hnn.kept hfr (by simpa using h8)) h1.now_rows k hkn'
      generalize T.now[k] = r at *
      have hdl := copyTo_length T.now (T.un.take j) T.fl
      have hdr := copyTo_rows T.now h1.now_rows (T.un.take j) T.fl h1.1 (fun x hx => by rw [St.now_length]; exact (h1.2.1 x (List.mem_of_mem_take hx)).1)
      have hcl : (Value.int .i64 k :: byteCells l).length = 129 := by rw [List.length_cons, byteCells_length, hl]
      have hwc : (Try.prog.info? 76).map (·.size) = some (Value.int .i64 k :: byteCells l).length := by rw [hcl]; kernel_rfl
      have hsc : (Try.prog.info? 71).map (·.size) = some (byteCells r).length := by rw [byteCells_length, hrl]; kernel_rfl
      have hone : ∀ v ∈ (Value.int .i64 k :: byteCells l), v.oneCell' = true := by intro v hv; rcases List.mem_cons.1 hv with rfl | hv; rfl; exact byteCells_one l v hv
      have hwl : wr.heap.size ≥ w1.heap.size := hfr.size
      have HWC := Lib.hid hwc
      have HSC := Lib.hid hsc
      have HONE := Lib.hid hone
      have HCL := Lib.hid hcl
      have HCP := Lib.hid hcp
      have HDL := Lib.hid hdl
      have HDR := Lib.hid hdr
      have HRL := Lib.hid hrl
      have HOB := Lib.hid hob
      have hzl : (Value.int .i64 0 :: Z).length = 129 := by rw [List.length_cons, HZ.out, List.length_replicate]
      have HZL := Lib.hid hzl
      clear hwc hsc hone hcl hcp hdl hdr hrl htake hob hl hsrc hzl
      go_wp2_with (first
        | (refine wpList_load_mid rfl _ (.tmp 24) rfl gu (j * 129) rfl (Value.int .i64 k :: byteCells l) _ hld Try.underlying76 rfl HWC.out ?_)
        | (refine wpList_store_all rfl _ (.tmp 4) (.tmp 25) rfl wr.heap.size (Value.int .i64 k :: byteCells l) rfl rfl 76 (Value.int .i64 0 :: Z) (Row.of_has (heap_alloc_new _ _)) (by rw [HCL.out, HZL.out]) HWC.out HONE.out ?_
           intro w2 hw2 hf2
           have hf2' := (((Fr.refl wr []).alloc (Obj.cells (Value.int IntKind.i64 0 :: Z).toArray 76)).trans hf2 (by simp))))
      have hg2 := hf2'.has hgr (by simp)
      have a0 : w2.drew.cell? ⟨g, 0, none⟩ = _ := hg2.cell 0
      have a1 : w2.drew.cell? ⟨g, 1, none⟩ = _ := hg2.cell 1
      have ak : w2.drew.cell? ⟨wr.heap.size, 0, none⟩ = some (.int .i64 k) := hw2.cell 0 (by simp)
      have hkI : (k : Int) < n := by omega
      have hk0 : (0 : Int) ≤ k := by omega
      have hnr2 : w2.drew.rangeAt gn (k * 128) (byteCells r) := range_kept hnr hf2'.drew (by omega) (by simp)
      refine wp_region_still_tail 17 (by kernel_rfl) (by kernel_rfl) ?_
      simp only [List.take_succ_cons, List.take_zero, List.drop_succ_cons, List.drop_zero]
      show wpStill _ _ (World.drew w2) (fun a' => wpList _ _ _ _ a' (World.drew w2)) _ _
      repeat (first | (refine wpStill_load_mid rfl _ (.tmp 40) rfl gn (k * 128) rfl (byteCells r) _ hnr2 Try.underlying71 rfl HSC.out ?_) | still_step)
      refine wpStill_nil ?_
      show wpList _ _ _ _ _ (World.drew w2)
      have hrow2 := (hrow.kept hf2' (by simp)).drew
      have hfit := fits_row HDR.out (k := k) (l := r) (by rw [HDL.out, ← HN.out]; exact hkn) HRL.out
      go_wp2_with (first
        | (refine wpList_store_at rfl _ (.tmp 42) (.tmp 41) rfl gf (k * 128) (byteCells r) rfl rfl 71 _ hrow2 hfit HSC.out (byteCells_one _) ?_
           intro w3 hw3 hf3))
      have hr3 := put_row hw3 HDR.out (by rw [HDL.out, ← HN.out]; exact hkn) HRL.out
      rw [← HCP.out] at hr3
      have hfr3 : Fr w1 w3 [gf] := ((hfr.trans hf2' (by simp)).drew).trans hf3 (by simp)
      go_roundw
      case rel => exact ⟨j + 1, by omega, by go_num, hr3, hfr3⟩
      case measure => simp [RowKit.intOf]; omega
    · have e2 := hgr.cell 2
      have e2f := hgr.free 2
      have hall : T.un.take j = T.un := List.take_of_length_le (by omega)
      rw [hall, show copyTo T.now T.fl T.un = T.now from flushed_all _ _] at hrow
      have hfin : After w (wr.setCell ⟨g, 2, none⟩ (.slice none 0 0)) B g { T with fl := S.now, un := [] } fs := by
        refine After.next r1 m1 ?_
        have e : S.now = T.now := by rw [← HT.out]; unfold St.now; rw [opS_fl, opS_un]
        rw [e]
        exact copied_after (w2 := wr) (L := T.now) h1 HN.out h3 h4 h5 h6 h7 h8 n1 n2 h1.now_rows (by rw [St.now_length, HN.out]) (hgr.put 2 _) (hnn.kept hfr (by simpa using h8)) hrow b1 b2 b3 HFS.out (hfr.more (by simp)) ((Fr.refl wr [g]).setCell (by simp) _)
      have HFIN := Lib.hid hfin
      clear hfin hall
      go_wp2
      go_ret
      exact ⟨rfl, by rw [HT.out]; exact HFIN.out⟩
theorem flush_walk (w : World) (B g : Nat) (S : St) (fs : List Nat) (h : Dk w B g S fs) :
    Calls Try.prog 58 #[.pointer (some ⟨g, 0, none⟩)] w fun e w' => e = .returned (.int .i64 (flushE S)) ∧ After w w' B g (flushS S) fs := by
  obtain ⟨_, _, _, _, _, _, _, _, _, _, _, _, _, _, _, _, _, _, _, _, _, hg, _⟩ := h.opened
  have c3 : w.cell? ⟨g, 3, none⟩ = _ := hg.cell 3
  cases hon : S.on with
  | true =>
    cases hop : opOk S with
    | true =>
      have e1 : flushE S = 0 := by unfold flushE; rw [if_pos ⟨hon, hop⟩]
      have e2 : flushS S = { opS S with fl := S.now, un := [] } := by unfold flushS; rw [if_pos hon, if_pos hop]
      rw [e1, e2]
      exact flush_ok w B g S fs h hon hop
    | false =>
      have e1 : flushE S = 8 := by unfold flushE; rw [if_neg (by simp [hop])]
      have e2 : flushS S = opS S := by unfold flushS; rw [if_pos hon, if_neg (by simp [hop])]
      rw [e1, e2]
      have c3' : w.cell? ⟨g, 3, none⟩ = some (.bool true) := by rw [← hon]; exact c3
      have HO := Lib.hid (operate_walk h hon)
      clear c3 hg e1 e2
      go_enter Try.func58, Try.ntmps58
      go_wp2_with fail
      refine HO.out.mono ?_
      rintro e w1 ⟨rfl, ha⟩
      rw [hop]
      go_wp2
      go_ret
      exact ⟨rfl, ha⟩
  | false =>
    have e1 : flushE S = 8 := by unfold flushE; rw [if_neg (by simp [hon])]
    have e2 : flushS S = S := by unfold flushS; rw [if_neg (by simp [hon])]
    rw [e1, e2]
    have c3' : w.cell? ⟨g, 3, none⟩ = some (.bool false) := by rw [← hon]; exact c3
    have HA := Lib.hid (After.refl h)
    clear c3 hg e1 e2 h
    go_enter Try.func58, Try.ntmps58
    go_wp2
    go_ret
    exact ⟨rfl, HA.out⟩
end DF
end Go.Proofs.Ytkhdidhpcdlmcaa
