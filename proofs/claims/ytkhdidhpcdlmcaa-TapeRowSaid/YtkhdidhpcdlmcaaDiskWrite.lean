/- A write to a disk: (*disk.Disk).Write. -/
import Derived.Test.YtkhdidhpcdlmcaaDiskMem
import Derived.Test.YtkhdidhpcdlmcaaFootLaws
namespace Go.Proofs.Ytkhdidhpcdlmcaa
open Go.RowKit Go.Lib MM MF DM DK FL
namespace DW
theorem writeInfo : (Try.prog.info? 76).map (fun i => (i.zero, i.size, i.bytes)) = some (some (.agg (Value.int .i64 0 :: List.replicate 128 (Value.int .u8 0)).toArray), 129, 136) := by kernel_rfl
theorem zero_write (Z : List Value) (hZ : Z = List.replicate 128 (Value.int .u8 0)) (W : World) : (zeroValue 76).run Try.prog W = .ok (.agg (Value.int .i64 0 :: Z).toArray) W := by
  rw [hZ]; exact (zero_of_info (P := Try.prog) (t := 76) (v := .agg (Value.int .i64 0 :: List.replicate 128 (Value.int .u8 0)).toArray) (n := 129) (by kernel_rfl)).1 W
theorem opS_fl (S : St) : (opS S).fl = S.fl := by unfold opS; split; rfl; split <;> rfl
theorem opS_un (S : St) : (opS S).un = S.un := by unfold opS; split; rfl; split <;> rfl
theorem opS_on (S : St) (h : opOk S = true) : (opS S).on = S.on := by
  unfold opOk at h
  unfold opS
  split
  · rfl
  · split
    · rename_i h1; rw [h1] at h; cases h
    · rfl
theorem wcells_snoc (u : List (Nat × List UInt8)) (k : Nat) (l : List UInt8) : wcells (u ++ [(k, l)]) = wcells u ++ (Value.int .i64 k :: byteCells l) := by simp [wcells]
/-- What a write leaves. -/
theorem write_after {w1 w3 w4 w5 w6 : World} {B g k : Nat} {S : St} {l : List UInt8} {fs : List Nat} {gn cn gf cf n gu cu : Nat} {vu : Value} (h1 : S.Ok) (h2 : S.un.length < 1000000000) (hn : n = S.fl.length) (h3 : 1 ≤ n)
    (h4 : n ≤ cn) (h5 : n ≤ cf) (h6 : cn ≤ maxLen) (h7 : cf ≤ maxLen) (h8 : gn ≠ gf) (n1 : g ≠ gn) (n2 : g ≠ gf) (n3 : vu.ownBlock ≠ some g) (n4 : vu.ownBlock ≠ some gn) (n5 : vu.ownBlock ≠ some gf)
    (hg : Has w1 g 68 [.slice (some ⟨gn, 0, none⟩) n cn, .slice (some ⟨gf, 0, none⟩) n cf, vu, .bool S.on, .int .i64 S.fuse])
    (hnn : Row w1 gn 71 (byteCells S.now.flatten)) (hfl : Row w1 gf 71 (byteCells S.fl.flatten)) (hu : w1.ownsRow B 76 129 vu S.un.length (wcells S.un))
    (b1 : B ≤ g) (b2 : B ≤ gn) (b3 : B ≤ gf) (hfs : fs = g :: gn :: gf :: vu.ownBlock.toList) (hk : k < n) (hl : l.length = 128) (f3 : Fr w1 w3 [])
    (r4 : Row w4 gn 71 (splice (byteCells S.now.flatten) (k * 128) (byteCells l))) (f4 : Fr w3 w4 [gn]) (f5 : Fr w4 w5 [])
    (r6 : w6.ownsRow B 76 129 (.slice (some ⟨gu, 0, none⟩) (S.un.length + 1) cu) (S.un.length + 1) (wcells S.un ++ (Value.int .i64 k :: byteCells l))) (f6 : w5.grownBy w6 vu.ownBlock) (hat : vu.ownBlock = some gu ∨ w1.heap.size ≤ gu) :
    After w1 (w6.setCell ⟨g, 2, none⟩ (.slice (some ⟨gu, 0, none⟩) (S.un.length + 1) cu)) B g { S with un := S.un ++ [(k, l)] } fs := by
  have fg : g < w1.heap.size := hg.lt
  have fn : gn < w1.heap.size := hnn.lt
  have ff : gf < w1.heap.size := hfl.lt
  have f14 : Fr w1 w4 [gn] := (f3.more (by simp)).trans f4 (by simp)
  have f15 : Fr w1 w5 [gn] := f14.trans f5 (by simp)
  have f56 : Fr w5 w6 vu.ownBlock.toList := Fr.of_grown f6 (by simp)
  have f16 : Fr w1 w6 (gn :: vu.ownBlock.toList) := (f15.more (by simp)).trans f56 (by simp; exact fun x hx => .inl (.inr hx))
  have hgg : Has w6 g 68 _ := f16.has hg (by simp; exact ⟨n1, n3⟩)
  have hff := hfl.kept f16 (by simp; exact ⟨Ne.symm h8, n5⟩)
  have hnn6 : Row w6 gn 71 _ := (r4.kept f5 (by simp)).kept f56 (by simp; exact n4)
  have hgu : gu ≠ g ∧ gu ≠ gn ∧ gu ≠ gf := by
    rcases hat with h | h
    · exact ⟨fun e => n3 (by rw [h, e]), fun e => n4 (by rw [h, e]), fun e => n5 (by rw [h, e])⟩
    · omega
  have fs7 : Fr w6 (w6.setCell ⟨g, 2, none⟩ (.slice (some ⟨gu, 0, none⟩) (S.un.length + 1) cu)) [g] := (Fr.refl w6 [g]).setCell (by simp) _
  have e2 : (splice (byteCells S.now.flatten) (k * 128) (byteCells l)) = byteCells (S.now.set k l).flatten := by
    rw [Nat.mul_comm, ← flat_set S.now k l (by rw [St.now_length]; omega) h1.now_rows hl]
    unfold byteCells
    rw [map_splice]
  have hBu : ∀ x ∈ vu.ownBlock, B ≤ x := fun x hx => (hu.lt x hx).1
  have hl2 : (S.un ++ [(k, l)]).length = S.un.length + 1 := by simp
  refine ⟨g :: gn :: gf :: [gu], ⟨gn, cn, gf, cf, .slice (some ⟨gu, 0, none⟩) (S.un.length + 1) cu, ⟨h1.1, ?_, h1.2.2.1, h1.2.2.2⟩, by rw [hl2]; omega, by rw [← hn]; exact h3, by rw [← hn]; exact h4, by rw [← hn]; exact h5, h6, h7, h8, ?_, ?_, hff.kept fs7 (by simp; exact Ne.symm n2), ?_, b1, b2, b3, rfl⟩, ?_, ?_⟩
  · intro x hx
    rcases List.mem_append.1 hx with hx | hx
    · exact h1.2.1 x hx
    · simp at hx
      rw [hx]
      exact ⟨by show k < S.fl.length; omega, hl⟩
  · have := hgg.put 2 (.slice (some ⟨gu, 0, none⟩) (S.un.length + 1) cu)
    rw [hn] at this
    exact this
  · have e3 : (St.mk S.fl (S.un ++ [(k, l)]) S.on S.fuse).now = S.now.set k l := nowOf_snoc _ _ _
    rw [e3, ← e2]
    exact hnn6.kept fs7 (by simp; exact Ne.symm n1)
  · rw [hl2]
    show World.ownsRow _ _ _ _ _ _ (wcells (S.un ++ [(k, l)]))
    rw [wcells_snoc]
    exact fs7.owns r6 (fun x hx => by simp [Value.ownBlock] at hx; subst hx; simp; exact hgu.1)
  · rw [hfs]
    refine (f16.more (fun x hx _ => ?_)).trans fs7 (by simp)
    simp at hx ⊢
    rcases hx with hx | hx
    · exact .inr (.inl hx)
    · exact .inr (.inr (.inr hx))
  · intro x hx
    rw [hfs]
    simp at hx ⊢
    rcases hx with hx | hx | hx | hx
    · exact .inl (.inl hx)
    · exact .inl (.inr (.inl hx))
    · exact .inl (.inr (.inr (.inl hx)))
    · subst hx
      rcases hat with h | h
      · exact .inl (.inr (.inr (.inr h)))
      · exact .inr h

set_option maxRecDepth 100000 in
set_option maxHeartbeats 1000000 in
theorem write_ok (w : World) (B g : Nat) (S : St) (fs : List Nat) (h : Dk w B g S fs) (k : Nat) (hk : k < S.fl.length) (hon : S.on = true) (hop : opOk S = true) (l : List UInt8) (hl : l.length = 128) (hlen2 : S.un.length < 1000000000) :
    Calls Try.prog 110 #[.pointer (some ⟨g, 0, none⟩), .int .i64 k, .string ⟨l.toArray⟩] w fun e w' => e = .returned (.int .i64 0) ∧ After w w' B g { opS S with un := S.un ++ [(k, l)] } fs := by
  have HC := Lib.hid (refusal_walk h k)
  have HR := Lib.hid (refuse_in (i := k) hon (by omega) (by omega))
  have HO := Lib.hid (operate_walk h hon)
  obtain ⟨Z, hZ⟩ : ∃ Z, Z = List.replicate 128 (Value.int .u8 0) := ⟨_, rfl⟩
  have hzw := zero_write Z hZ
  have HZ := Lib.hid hZ
  clear hZ
  have HL := Lib.hid hl
  have hZl : Z.length = 128 := by rw [HZ.out, List.length_replicate]
  have hZ1 : ∀ v ∈ Z, v.oneCell' = true := by rw [HZ.out]; intro v hv; rw [List.eq_of_mem_replicate hv]; rfl
  have hsz : (Try.prog.info? 76).map (·.size) = some 129 := by kernel_rfl
  have HS := Lib.hid hsz
  have HZL := Lib.hid hZl
  have HZ1 := Lib.hid hZ1
  clear hsz hZl hZ1
  go_enter Try.func110, Try.ntmps110
  go_wp2_with fail
  refine HC.out.mono ?_
  rintro e w' ⟨rfl, rfl⟩
  rw [HR.out]
  go_wp2_with fail
  refine HO.out.mono ?_
  rintro e w1 ⟨rfl, fs1, d1, r1, m1⟩
  rw [hop]
  obtain ⟨gn, cn, gf, cf, n, vu, h1, h2, hn, h3, h3', h4, h5, h6, h7, h8, n1, n2, n3, n4, n5, hg, hnn, hfl, hu, b1, b2, b3, hfs1⟩ := d1.opened
  have hgw : g < w1.heap.size := d1.lt
  have hnw : gn < w1.heap.size := hnn.lt
  have HFS := Lib.hid hfs1
  have HN := Lib.hid hn
  clear hfs1 hn
  go_wp2_with (first
    | (refine wpList_store_all rfl _ (.tmp 8) (.tmp 23) rfl w1.heap.size (Value.int .i64 k :: Z) rfl rfl 76 (Value.int .i64 0 :: Z) (Row.of_has (heap_alloc_new _ _)) (by simp) (by rw [HS.out, List.length_cons, HZL.out]) (by intro v hv; rcases List.mem_cons.1 hv with rfl | hv; rfl; exact HZ1.out v hv) ?_
       intro w2 hw2 hf2
       have hf2' := (((Fr.refl w1 []).alloc (Obj.cells (Value.int IntKind.i64 0 :: Z).toArray 76)).trans hf2 (by simp)))
    | (refine wpList_copy_text rfl (.tmp 25) (.tmp 26) _ _ rfl 5 Try.underlying23 (by kernel_rfl) w1.heap.size 1 128 128 l rfl rfl 76 (Value.int .i64 k :: Z) hw2 (by rw [HL.out]; exact Nat.le_refl _) (by rw [HL.out, List.length_cons, HZL.out]; omega) ?_
       intro w3 hw3 hf3
       rw [splice_tail _ _ _ (by rw [byteCells_length, HL.out, HZL.out])] at hw3
       have hf3' := hf2'.trans hf3 (by simp)
       clear hw2 hf2 hf2' hf3
       have hg3 := hf3'.has hg (by simp)
       have hn3 := hnn.kept hf3' (by simp)))
  have c0 := hg3.draw.cell 0
  have hld := hw3.range 1 (byteCells l) (fun j hj => by rw [Nat.add_comm]; rfl)
  have hkn' : k < n := by rw [HN.out, opS_fl]; exact hk
  have hkn : (k : Int) < n := by omega
  have hk0 : (0 : Int) ≤ k := by omega
  have hsc : (Try.prog.info? 71).map (·.size) = some (byteCells l).length := by rw [byteCells_length, HL.out]; kernel_rfl
  have HSC := Lib.hid hsc
  have HLD := Lib.hid hld
  clear hsc hld
  refine wp_region_still_tail 8 (by kernel_rfl) (by kernel_rfl) ?_
  simp only [List.take_succ_cons, List.take_zero, List.drop_succ_cons, List.drop_zero]
  show wpStill _ _ (World.drew w3) (fun a' => wpList _ _ _ _ a' (World.drew w3)) _ _
  repeat (first | (refine wpStill_load_mid rfl _ (.tmp 33) rfl w1.heap.size 1 rfl (byteCells l) _ HLD.out Try.underlying71 rfl HSC.out ?_) | still_step)
  refine wpStill_nil ?_
  show wpList _ _ _ _ _ (World.drew w3)
  have hlen : k * 128 + (byteCells l).length ≤ (byteCells (opS S).now.flatten).length := by
    rw [byteCells_length, byteCells_length, flat_length _ h1.now_rows, St.now_length, ← HN.out, HL.out]; omega
  go_wp2_with (first
    | (refine wpList_store_at rfl _ (.tmp 35) (.tmp 34) rfl gn (k * 128) (byteCells l) rfl rfl 71 (byteCells (opS S).now.flatten) hn3 hlen HSC.out (byteCells_one _) ?_
       intro w4 hw4 hf4))
  have hgw4 : gn ≠ w1.heap.size := by omega
  have hg4 : Has w4 g 68 _ := hf4.has hg3.draw (by simp; exact n1)
  have hw34 : Row w4 w1.heap.size 76 (Value.int .i64 k :: byteCells l) := hw3.drew.kept hf4 (by simp; omega)
  have hf34 : Fr w3 w4 [gn] := (Fr.refl w3 []).drew.more (by simp) |>.trans hf4 (by simp)
  have d0 : w4.cell? ⟨g, 2, none⟩ = some vu := hg4.cell 2
  have d0a : (w4.alloc (Obj.cells (Value.int .i64 k :: byteCells l).toArray 76)).cell? ⟨g, 2, none⟩ = some vu := (hg4.grow _).cell 2
  have hld : w4.drew.rangeAt w1.heap.size 0 (Value.int .i64 k :: byteCells l) := hw34.drew.range 0 (Value.int .i64 k :: byteCells l) (fun j hj => by rw [Nat.zero_add])
  have hcl : (Value.int .i64 k :: byteCells l).length = 129 := by rw [List.length_cons, byteCells_length, HL.out]
  have hwc : (Try.prog.info? 76).map (·.size) = some (Value.int .i64 k :: byteCells l).length := by rw [hcl]; kernel_rfl
  obtain ⟨i0, hi0, hz0, hs0, hb0⟩ := info_parts writeInfo
  have hload := fun dst ty pos aft a K Q => rule_load (P := Try.prog) (w := w4.drew) 76 (.tmp 8) w1.heap.size 0 (Value.int .i64 k :: byteCells l) _ hld Try.underlying76 rfl hwc dst ty pos aft a K Q
  have hbuild := fun dst ty pos aft a w K Q => rule_build (P := Try.prog) 66 76 (.tmp 41) i0 _ Try.underlying66 hi0 hz0 (Value.int .i64 k :: byteCells l) (by rw [hs0, hcl]) (by rw [hcl]; omega) (by rw [hcl]; omega) dst ty pos aft a w K Q
  have hone : ∀ v ∈ (Value.int .i64 k :: byteCells l), v.oneCell' = true := by intro v hv; rcases List.mem_cons.1 hv with rfl | hv; rfl; exact byteCells_one l v hv
  have hf14 : Fr w1 w4 [gn] := (hf3'.more (by simp)).trans hf34 (by simp)
  have hu4 : w4.ownsRow B 76 129 vu (opS S).un.length (wcells (opS S).un) := hf14.owns hu (fun x hx => by simp; rintro rfl; exact n4 hx)
  have hu5 : (w4.alloc (Obj.cells (Value.int .i64 k :: byteCells l).toArray 76)).drew.ownsRow B 76 129 vu (opS S).un.length (wcells (opS S).un) := hu4.alloc _
  have hnews : ∀ j u, (Value.int .i64 k :: byteCells l)[j]? = some u → (w4.alloc (Obj.cells (Value.int .i64 k :: byteCells l).toArray 76)).drew.cell? ((⟨w4.heap.size, 0, none⟩ : Addr).add j) = some u := by
    intro j u hj
    rw [Addr.add_mid, Nat.zero_add]
    exact ((show Has (w4.alloc (Obj.cells (Value.int .i64 k :: byteCells l).toArray 76)) w4.heap.size 76 _ from heap_alloc_new _ _).cell j).trans hj
  have hBw : B ≤ w4.heap.size := by have := hf14.size; have := d1.base; omega
  have hsz5 : (w4.alloc (Obj.cells (Value.int .i64 k :: byteCells l).toArray 76)).drew.heap.size = w4.heap.size + 1 := by simp
  have hun : (opS S).un.length + 1 ≤ 1000000001 := by omega
  have hend : ∀ (w6 : World) (gu cu : Nat), w6.ownsRow B 76 129 (.slice (some ⟨gu, 0, none⟩) ((opS S).un.length + 1) cu) ((opS S).un.length + 1) (wcells (opS S).un ++ (Value.int .i64 k :: byteCells l)) →
      (w4.alloc (Obj.cells (Value.int .i64 k :: byteCells l).toArray 76)).drew.grownBy w6 vu.ownBlock → (vu.ownBlock = some gu ∨ gu = w4.heap.size + 1) →
      After w (w6.setCell ⟨g, 2, none⟩ (.slice (some ⟨gu, 0, none⟩) ((opS S).un.length + 1) cu)) B g { opS S with un := S.un ++ [(k, l)] } fs ∧ Has w6 g 68 [.slice (some ⟨gn, 0, none⟩) n cn, .slice (some ⟨gf, 0, none⟩) n cf, vu, .bool (opS S).on, .int .i64 (opS S).fuse] := by
    intro w6 gu cu q1 q2 q3
    have f5 : Fr w4 (w4.alloc (Obj.cells (Value.int .i64 k :: byteCells l).toArray 76)).drew [] := ((Fr.refl w4 []).alloc _).drew
    refine ⟨After.next r1 m1 ?_, ?_⟩
    · rw [← opS_un S]
      exact write_after h1 (by rw [opS_un]; exact hlen2) HN.out h3 h4 h5 h6 h7 h8 n1 n2 n3 n4 n5 hg hnn hfl hu b1 b2 b3 HFS.out hkn' HL.out hf3' hw4 hf34 f5 q1 q2 (q3.imp id (fun e => by have := hf14.size; omega))
    · exact (Fr.of_grown q2 (fs := vu.ownBlock.toList) (by simp)).has (hg4.grow _).draw (by simp; exact n3)
  have HEND := Lib.hid hend
  have HI := Lib.hid hi0
  have HZ0 := Lib.hid hz0
  have HS0 := Lib.hid hs0
  have HB0 := Lib.hid hb0
  have HCL := Lib.hid hcl
  have HONE := Lib.hid hone
  have HU := Lib.hid hu5
  have HNEWS := Lib.hid hnews
  have HSZ5 := Lib.hid hsz5
  clear hwc hld hlen hw4 c0 HLD hi0 hz0 hs0 hb0 hcl hone hu4 hu5 hnews hend hsz5 hu
  refine wp_region_any (by kernel_rfl) ?_
  change wpAny _ _ _ _ _ _ _ (World.drew w4)
  refine wpAny_take (i := 0) (v := .pointer (some ⟨g, 0, none⟩)) (lit rfl) (by kernel_rfl) (by kernel_rfl) (by kernel_rfl) (fun _ _ _ h => h) (Or.inl ⟨by rfl, fun w => by go_simp⟩) ?_
  simp only [Act.put, List.setIfInBounds_toArray, List.set_cons_zero, List.set_cons_succ]
  refine wpAny_take (i := 1) (v := .pointer (some ⟨g, 0, none⟩)) (lit rfl) (by kernel_rfl) (by kernel_rfl) (by kernel_rfl) (fun _ _ _ h => h) (Or.inl ⟨by rfl, fun w => by go_simp⟩) ?_
  simp only [Act.put, List.setIfInBounds_toArray, List.set_cons_zero, List.set_cons_succ]
  refine wpAny_take (i := 2) (v := .pointer (some ⟨g, 0, none⟩)) (lit rfl) (by kernel_rfl) (by kernel_rfl) (by kernel_rfl) (fun _ _ _ h => h) (Or.inl ⟨by rfl, fun w => by go_simp⟩) ?_
  simp only [Act.put, List.setIfInBounds_toArray, List.set_cons_zero, List.set_cons_succ]
  refine wpAny_take (i := 3) (v := .pointer (some ⟨g, 2, none⟩)) (lit rfl) (by kernel_rfl) (by kernel_rfl) (by kernel_rfl) (fun _ _ _ h => h) (Or.inl ⟨by rfl, fun w => by go_simp⟩) ?_
  simp only [Act.put, List.setIfInBounds_toArray, List.set_cons_zero, List.set_cons_succ]
  refine wpAny_ready (rs := [4, 5]) (by kernel_rfl) (by simp) (AllReady.cons (lit rfl) (fun K hK => ?_) (AllReady.cons (lit rfl) (fun K hK => ?_) AllReady.nil))
  · go_simp
    refine hK _ _ ?_
    clear hK K
    refine wpAny_ready (rs := [5]) (by kernel_rfl) (by simp) (AllReady.cons (lit rfl) (fun K hK => ?_) AllReady.nil)
    rw [if_pos (by rfl)]
    rw [hload _ _ _ _ _ K _ (by rfl)]
    refine hK _ _ ?_
    clear hK K
    simp only [Act.put, List.setIfInBounds_toArray, List.set_cons_zero, List.set_cons_succ]
    refine wpAny_ready (rs := [6]) (by kernel_rfl) (by simp) (AllReady.cons (lit rfl) (fun K hK => ?_) AllReady.nil)
    rw [if_pos (by rfl)]
    rw [hbuild _ _ _ _ _ _ K _ (by rfl)]
    refine hK _ _ ?_
    clear hK K
    simp only [Act.put, List.setIfInBounds_toArray, List.set_cons_zero, List.set_cons_succ]
    change wpAny _ _ _ _ _ _ _ (World.drew (World.alloc w4 (Obj.cells (Value.int .i64 k :: byteCells l).toArray 76)))
    refine wpAny_ready (rs := [7]) (by kernel_rfl) (by simp) (AllReady.cons (lit rfl) (fun K hK => ?_) AllReady.nil)
    refine step_append_lies _ rfl (.tmp 40) (.tmp 42) 66 rfl B 76 i0 _ 129 136 Try.underlying66 HI.out HZ0.out HS0.out HB0.out (by simp [Value.cells]) (by omega) vu (opS S).un.length (wcells (opS S).un) rfl HU.out ⟨w4.heap.size, 0, none⟩ 1 1 (Value.int .i64 k :: byteCells l) rfl HCL.out HNEWS.out HONE.out (by omega) (by unfold maxLen; omega) (by omega) (by rw [HSZ5.out]; omega) (w4.heap.size + 1) HSZ5.out ?_
    intro gu cu w6 hown6 hgrow hat hlt
    obtain ⟨hfin, hg6⟩ := HEND.out w6 gu cu hown6 hgrow hat
    have e2 := hg6.cell 2
    have e2f := hg6.free 2
    have HFIN := Lib.hid hfin
    clear hfin hown6 hgrow hat hg6
    refine hK _ _ ?_
    clear hK K
    simp only [Act.put, List.setIfInBounds_toArray, List.set_cons_zero, List.set_cons_succ]
    refine wpAny_ready (rs := [8]) (by kernel_rfl) (by simp) (AllReady.cons (lit rfl) (fun K hK => ?_) AllReady.nil)
    go_simp
    refine hK _ _ ?_
    clear hK K
    refine wpAny_ready (rs := [9]) (by kernel_rfl) (by simp) (AllReady.cons (lit rfl) (fun K hK => ?_) AllReady.nil)
    go_simp
    refine hK _ _ ?_
    clear hK K
    refine wpAny_ready (rs := [10]) (by kernel_rfl) (by simp) (AllReady.cons (lit rfl) (fun K hK => ?_) AllReady.nil)
    go_simp
    refine hK _ _ ?_
    clear hK K
    refine wpAny_done (by kernel_rfl) ?_ _
    go_wp2
    go_ret
    exact ⟨rfl, HFIN.out⟩
  · rw [if_pos (by rfl)]
    rw [hload _ _ _ _ _ K _ (by rfl)]
    refine hK _ _ ?_
    clear hK K
    simp only [Act.put, List.setIfInBounds_toArray, List.set_cons_zero, List.set_cons_succ]
    refine wpAny_ready (rs := [4, 6]) (by kernel_rfl) (by simp) (AllReady.cons (lit rfl) (fun K hK => ?_) (AllReady.cons (lit rfl) (fun K hK => ?_) AllReady.nil))
    · go_simp
      refine hK _ _ ?_
      clear hK K
      refine wpAny_ready (rs := [6]) (by kernel_rfl) (by simp) (AllReady.cons (lit rfl) (fun K hK => ?_) AllReady.nil)
      rw [if_pos (by rfl)]
      rw [hbuild _ _ _ _ _ _ K _ (by rfl)]
      refine hK _ _ ?_
      clear hK K
      simp only [Act.put, List.setIfInBounds_toArray, List.set_cons_zero, List.set_cons_succ]
      change wpAny _ _ _ _ _ _ _ (World.drew (World.alloc w4 (Obj.cells (Value.int .i64 k :: byteCells l).toArray 76)))
      refine wpAny_ready (rs := [7]) (by kernel_rfl) (by simp) (AllReady.cons (lit rfl) (fun K hK => ?_) AllReady.nil)
      refine step_append_lies _ rfl (.tmp 40) (.tmp 42) 66 rfl B 76 i0 _ 129 136 Try.underlying66 HI.out HZ0.out HS0.out HB0.out (by simp [Value.cells]) (by omega) vu (opS S).un.length (wcells (opS S).un) rfl HU.out ⟨w4.heap.size, 0, none⟩ 1 1 (Value.int .i64 k :: byteCells l) rfl HCL.out HNEWS.out HONE.out (by omega) (by unfold maxLen; omega) (by omega) (by rw [HSZ5.out]; omega) (w4.heap.size + 1) HSZ5.out ?_
      intro gu cu w6 hown6 hgrow hat hlt
      obtain ⟨hfin, hg6⟩ := HEND.out w6 gu cu hown6 hgrow hat
      have e2 := hg6.cell 2
      have e2f := hg6.free 2
      have HFIN := Lib.hid hfin
      clear hfin hown6 hgrow hat hg6
      refine hK _ _ ?_
      clear hK K
      simp only [Act.put, List.setIfInBounds_toArray, List.set_cons_zero, List.set_cons_succ]
      refine wpAny_ready (rs := [8]) (by kernel_rfl) (by simp) (AllReady.cons (lit rfl) (fun K hK => ?_) AllReady.nil)
      go_simp
      refine hK _ _ ?_
      clear hK K
      refine wpAny_ready (rs := [9]) (by kernel_rfl) (by simp) (AllReady.cons (lit rfl) (fun K hK => ?_) AllReady.nil)
      go_simp
      refine hK _ _ ?_
      clear hK K
      refine wpAny_ready (rs := [10]) (by kernel_rfl) (by simp) (AllReady.cons (lit rfl) (fun K hK => ?_) AllReady.nil)
      go_simp
      refine hK _ _ ?_
      clear hK K
      refine wpAny_done (by kernel_rfl) ?_ _
      go_wp2
      go_ret
      exact ⟨rfl, HFIN.out⟩
    · rw [if_pos (by rfl)]
      rw [hbuild _ _ _ _ _ _ K _ (by rfl)]
      refine hK _ _ ?_
      clear hK K
      simp only [Act.put, List.setIfInBounds_toArray, List.set_cons_zero, List.set_cons_succ]
      refine wpAny_ready (rs := [4]) (by kernel_rfl) (by simp) (AllReady.cons (lit rfl) (fun K hK => ?_) AllReady.nil)
      go_simp
      refine hK _ _ ?_
      clear hK K
      change wpAny _ _ _ _ _ _ _ (World.drew (World.alloc w4 (Obj.cells (Value.int .i64 k :: byteCells l).toArray 76)))
      refine wpAny_ready (rs := [7]) (by kernel_rfl) (by simp) (AllReady.cons (lit rfl) (fun K hK => ?_) AllReady.nil)
      refine step_append_lies _ rfl (.tmp 40) (.tmp 42) 66 rfl B 76 i0 _ 129 136 Try.underlying66 HI.out HZ0.out HS0.out HB0.out (by simp [Value.cells]) (by omega) vu (opS S).un.length (wcells (opS S).un) rfl HU.out ⟨w4.heap.size, 0, none⟩ 1 1 (Value.int .i64 k :: byteCells l) rfl HCL.out HNEWS.out HONE.out (by omega) (by unfold maxLen; omega) (by omega) (by rw [HSZ5.out]; omega) (w4.heap.size + 1) HSZ5.out ?_
      intro gu cu w6 hown6 hgrow hat hlt
      obtain ⟨hfin, hg6⟩ := HEND.out w6 gu cu hown6 hgrow hat
      have e2 := hg6.cell 2
      have e2f := hg6.free 2
      have HFIN := Lib.hid hfin
      clear hfin hown6 hgrow hat hg6
      refine hK _ _ ?_
      clear hK K
      simp only [Act.put, List.setIfInBounds_toArray, List.set_cons_zero, List.set_cons_succ]
      refine wpAny_ready (rs := [8]) (by kernel_rfl) (by simp) (AllReady.cons (lit rfl) (fun K hK => ?_) AllReady.nil)
      go_simp
      refine hK _ _ ?_
      clear hK K
      refine wpAny_ready (rs := [9]) (by kernel_rfl) (by simp) (AllReady.cons (lit rfl) (fun K hK => ?_) AllReady.nil)
      go_simp
      refine hK _ _ ?_
      clear hK K
      refine wpAny_ready (rs := [10]) (by kernel_rfl) (by simp) (AllReady.cons (lit rfl) (fun K hK => ?_) AllReady.nil)
      go_simp
      refine hK _ _ ?_
      clear hK K
      refine wpAny_done (by kernel_rfl) ?_ _
      go_wp2
      go_ret
      exact ⟨rfl, HFIN.out⟩

def writeE (S : St) (i : Int) (l : List UInt8) : Int := if refuse S i ≠ 0 then refuse S i else if l.length ≠ 128 then 2 else if opOk S = true then 0 else 8
def writeS (S : St) (i : Int) (l : List UInt8) : St := if refuse S i ≠ 0 then S else if l.length ≠ 128 then S else if opOk S = true then { opS S with un := S.un ++ [(i.toNat, l)] } else opS S
theorem refuse_zero {S : St} {i : Int} (h : refuse S i = 0) : S.on = true ∧ 0 ≤ i ∧ i < S.fl.length := by
  unfold refuse at h
  split at h
  · omega
  · rename_i h1
    split at h
    · omega
    · rename_i h2
      exact ⟨by simpa using h1, by omega, by omega⟩
set_option maxRecDepth 100000 in
set_option maxHeartbeats 1000000 in
theorem write_walk (w : World) (B g : Nat) (S : St) (fs : List Nat) (h : Dk w B g S fs) (i : Int) (l : List UInt8) (hlen2 : S.un.length < 1000000000) :
    Calls Try.prog 110 #[.pointer (some ⟨g, 0, none⟩), .int .i64 i, .string ⟨l.toArray⟩] w fun e w' => e = .returned (.int .i64 (writeE S i l)) ∧ After w w' B g (writeS S i l) fs := by
  have HC := Lib.hid (refusal_walk h i)
  by_cases hr : refuse S i = 0
  · obtain ⟨hon, h0, hi⟩ := refuse_zero hr
    by_cases hl : l.length = 128
    · cases hop : opOk S with
      | true =>
        obtain ⟨k, rfl⟩ := Int.eq_ofNat_of_zero_le h0
        have e1 : writeE S k l = 0 := by unfold writeE; rw [if_neg (by simpa using hr), if_neg (by simpa using hl), if_pos hop]
        have e2 : writeS S k l = { opS S with un := S.un ++ [(k, l)] } := by unfold writeS; rw [if_neg (by simpa using hr), if_neg (by simpa using hl), if_pos hop]; rfl
        rw [e1, e2]
        exact write_ok w B g S fs h k (by omega) hon hop l hl hlen2
      | false =>
        have e1 : writeE S i l = 8 := by unfold writeE; rw [if_neg (by simpa using hr), if_neg (by simpa using hl), if_neg (by simp [hop])]
        have e2 : writeS S i l = opS S := by unfold writeS; rw [if_neg (by simpa using hr), if_neg (by simpa using hl), if_neg (by simp [hop])]
        rw [e1, e2]
        have HO := Lib.hid (operate_walk h hon)
        have HR := Lib.hid hr
        clear hr e1 e2
        go_enter Try.func110, Try.ntmps110
        go_wp2_with fail
        refine HC.out.mono ?_
        rintro e w' ⟨rfl, rfl⟩
        rw [HR.out]
        go_wp2_with fail
        refine HO.out.mono ?_
        rintro e w1 ⟨rfl, ha⟩
        rw [hop]
        go_wp2
        go_ret
        exact ⟨rfl, ha⟩
    · have e1 : writeE S i l = 2 := by unfold writeE; rw [if_neg (by simpa using hr), if_pos (by simpa using hl)]
      have e2 : writeS S i l = S := by unfold writeS; rw [if_neg (by simpa using hr), if_pos (by simpa using hl)]
      rw [e1, e2]
      have HA := Lib.hid (After.refl h)
      have HR := Lib.hid hr
      have hne : ((l.length : Int) != 128) = true := by rw [bne_iff_ne]; omega
      clear hr e1 e2
      go_enter Try.func110, Try.ntmps110
      go_wp2_with fail
      refine HC.out.mono ?_
      rintro e w' ⟨rfl, rfl⟩
      rw [HR.out]
      go_wp2
      go_ret
      exact ⟨rfl, HA.out⟩
  · have e1 : writeE S i l = refuse S i := by unfold writeE; rw [if_pos hr]
    have e2 : writeS S i l = S := by unfold writeS; rw [if_pos hr]
    rw [e1, e2]
    have HA := Lib.hid (After.refl h)
    have hne : (refuse S i != 0) = true := by simpa using hr
    generalize refuse S i = r at *
    clear hr e1 e2 h
    go_enter Try.func110, Try.ntmps110
    go_wp2_with fail
    refine HC.out.mono ?_
    rintro e w' ⟨rfl, rfl⟩
    go_wp2
    go_ret
    exact ⟨rfl, HA.out⟩
end DW
end Go.Proofs.Ytkhdidhpcdlmcaa
