/- A disk that is the same in all: slices.Clone at its two lists, (*disk.Disk).Copy. -/
import Derived.Test.YtkhdidhpcdlmcaaDiskWake
import Derived.Maps.AppendAt
import Derived.Lib.LazyBuf
namespace Go.Proofs.Ytkhdidhpcdlmcaa
open Go.RowKit Go.Lib MM MF DM DK FL DW DF
namespace DC
theorem sectorInfo : (Try.prog.info? 71).map (fun i => (i.zero, i.size, i.bytes)) = some (some (.agg (Array.replicate 128 (.int .u8 0))), 128, 128) := by kernel_rfl
/-- A list was cloned. -/
def Cloned (w : World) (t : TypeId) (size n : Nat) (xs : List Value) (e : Ending) (w' : World) : Prop := ∃ v, e = .returned v ∧ w'.ownsRow w.heap.size t size v n xs ∧ Below w.heap.size w w'
theorem own_empty (w : World) (t : TypeId) (size : Nat) : (w.alloc (.cells #[] t)).ownsRow w.heap.size t size (.slice (some ⟨w.heap.size, 0, none⟩) 0 0) 0 [] :=
  World.ownsRow_made w #[] 0 (Nat.le_refl _) (by unfold maxLen; omega) (by simp)
theorem clone_sectors (w : World) (g c n : Nat) (xs : List Value) (h : Row w g 71 xs) (hl : xs.length = n * 128) (h1 : ∀ v ∈ xs, v.oneCell' = true) (hn : n ≤ 4096) :
    Calls Try.prog 36 #[.slice (some ⟨g, 0, none⟩) n c] w (Cloned w 71 128 n xs) := by
  obtain ⟨i0, hi0, hz0, hs0, hb0⟩ := info_parts sectorInfo
  have hnil := fun W : World => run_eql_slice_nil (P := Try.prog) W 65 71 (some ⟨g, 0, none⟩) n c Try.underlying65
  simp only [Option.isNone_some] at hnil
  have hnews : ∀ j u, xs[j]? = some u → (w.alloc (.cells #[] 71)).cell? ((⟨g, 0, none⟩ : Addr).add j) = some u := by
    intro j u hj
    rw [Addr.add_mid, Nat.zero_add]
    have hjl : j < xs.length := (List.getElem?_eq_some_iff.1 hj).1
    rw [(h.kept ((Fr.refl w []).alloc _) (by simp)).cell j hjl, ← List.getElem?_eq_getElem hjl]; exact hj
  have HI := Lib.hid hi0
  have HZ0 := Lib.hid hz0
  have HS0 := Lib.hid hs0
  have HB0 := Lib.hid hb0
  have HN := Lib.hid hnews
  have HL := Lib.hid hl
  have HE := Lib.hid (own_empty w 71 128)
  have H1 := Lib.hid h1
  clear hi0 hz0 hs0 hb0 hnews hl h1
  go_enter Try.func36, Try.ntmps36
  go_wp2_with (first
    | (at_builtin
       refine wpList_append_own_at _ rfl (.tmp 5) (.tmp 6) _ rfl w.heap.size 71 i0 _ 128 128 Try.underlying65 HI.out HZ0.out HS0.out HB0.out (by simp [Value.cells]) (by omega) (.slice (some ⟨w.heap.size, 0, none⟩) 0 0) 0 [] rfl HE.out ⟨g, 0, none⟩ n c xs rfl HL.out HN.out H1.out (by unfold maxLen; omega) (by omega) (by simp) ?_
       intro v' w2 hown hgrow _ _))
  go_ret
  exact ⟨v', rfl, by simpa using hown, ((Fr.of_grown hgrow (fs := [w.heap.size]) (by simp [Value.ownBlock])) |> fun f => ((Fr.refl w [w.heap.size]).alloc _).trans f (by simp)).below (by simp) (Nat.le_refl _)⟩
theorem clone_writes (w : World) (B : Nat) (v : Value) (n : Nat) (xs : List Value) (h : w.ownsRow B 76 129 v n xs) (h1 : ∀ v ∈ xs, v.oneCell' = true) (hn : n ≤ 1000000000) :
    Calls Try.prog 37 #[v] w (Cloned w 76 129 n xs) := by
  rcases h.2 with ⟨rfl, rfl⟩ | ⟨g, c, cur, rfl, hb, hg, hnc, hcm, hcs, ht⟩
  · have hx : xs = [] := List.eq_nil_of_length_eq_zero (by simpa using h.1)
    subst hx
    have hnil := fun W : World => run_eql_slice_nil (P := Try.prog) W 66 76 none 0 0 Try.underlying66
    simp only [Option.isNone_none] at hnil
    have HE : Cloned w 76 129 0 [] (.returned (.slice none 0 0)) w := ⟨_, rfl, World.ownsRow_nil _ _ _ _, Below.refl _ _⟩
    clear h h1
    go_enter Try.func37, Try.ntmps37
    go_wp2
    go_ret
    exact HE
  · have hr : Row w g 76 xs := (Row.owns h).1
    have hl := h.1
    obtain ⟨i0, hi0, hz0, hs0, hb0⟩ := info_parts writeInfo
    have hnil := fun W : World => run_eql_slice_nil (P := Try.prog) W 66 76 (some ⟨g, 0, none⟩) n c Try.underlying66
    simp only [Option.isNone_some] at hnil
    have hnews : ∀ j u, xs[j]? = some u → (w.alloc (.cells #[] 76)).cell? ((⟨g, 0, none⟩ : Addr).add j) = some u := by
      intro j u hj
      rw [Addr.add_mid, Nat.zero_add]
      have hjl : j < xs.length := (List.getElem?_eq_some_iff.1 hj).1
      rw [(hr.kept ((Fr.refl w []).alloc _) (by simp)).cell j hjl, ← List.getElem?_eq_getElem hjl]; exact hj
    have HI := Lib.hid hi0
    have HZ0 := Lib.hid hz0
    have HS0 := Lib.hid hs0
    have HB0 := Lib.hid hb0
    have HN := Lib.hid hnews
    have HL := Lib.hid hl
    have HE := Lib.hid (own_empty w 76 129)
    have H1 := Lib.hid h1
    clear hi0 hz0 hs0 hb0 hnews hl h1 h hg hcs ht hr
    go_enter Try.func37, Try.ntmps37
    go_wp2_with (first
      | (at_builtin
         refine wpList_append_own_at _ rfl (.tmp 5) (.tmp 6) _ rfl w.heap.size 76 i0 _ 129 136 Try.underlying66 HI.out HZ0.out HS0.out HB0.out (by simp [Value.cells]) (by omega) (.slice (some ⟨w.heap.size, 0, none⟩) 0 0) 0 [] rfl HE.out ⟨g, 0, none⟩ n c xs rfl HL.out HN.out H1.out (by unfold maxLen; omega) (by omega) (by simp) ?_
         intro v' w2 hown hgrow _ _))
    go_ret
    exact ⟨v', rfl, by simpa using hown, ((Fr.of_grown hgrow (fs := [w.heap.size]) (by simp [Value.ownBlock])) |> fun f => ((Fr.refl w [w.heap.size]).alloc _).trans f (by simp)).below (by simp) (Nat.le_refl _)⟩
theorem wcells_one (u : List (Nat × List UInt8)) : ∀ v ∈ wcells u, v.oneCell' = true := by
  intro v hv
  unfold wcells at hv
  obtain ⟨r, hr, hv⟩ := List.mem_flatten.1 hv
  obtain ⟨x, _, rfl⟩ := List.mem_map.1 hr
  rcases List.mem_cons.1 hv with rfl | hv
  · rfl
  · exact byteCells_one _ v hv
/-- A disk was copied. -/
def Copied (w : World) (S : St) (e : Ending) (w' : World) : Prop := ∃ g fs, e = .returned (.pointer (some ⟨g, 0, none⟩)) ∧ Dk w' w.heap.size g S fs ∧ Below w.heap.size w w'
set_option maxRecDepth 100000 in
set_option maxHeartbeats 1000000 in
theorem copy_walk (w : World) (B g : Nat) (S : St) (fs : List Nat) (h : Dk w B g S fs) : Calls Try.prog 8 #[.pointer (some ⟨g, 0, none⟩)] w (Copied w S) := by
  obtain ⟨gn, cn, gf, cf, n, vu, h1, h2, hn, h3, h3', h4, h5, h6, h7, h8, n1, n2, n3, n4, n5, hg, hnn, hfl, hu, b1, b2, b3, hfs⟩ := h.opened
  obtain ⟨A, capu, hvu, hul, _⟩ := own_slice hu
  subst hvu
  obtain ⟨c0, c1, c2, c3, c4, f0, f1, f2, f3, f4⟩ := head_cells hg
  have hgw : g < w.heap.size := hg.lt
  have hN := flat_length S.now h1.now_rows
  have hF := flat_length S.fl h1.1
  rw [St.now_length, ← hn] at hN
  rw [← hn] at hF
  have hnl : (byteCells S.now.flatten).length = n * 128 := by rw [byteCells_length, hN, Nat.mul_comm]
  have hfl2 : (byteCells S.fl.flatten).length = n * 128 := by rw [byteCells_length, hF, Nat.mul_comm]
  have HN := Lib.hid hn
  have HNL := Lib.hid hnl
  have HFL := Lib.hid hfl2
  clear hn hfs hN hF hnl hfl2
  go_enter Try.func8, Try.ntmps8
  go_wp2_with fail
  have hne : g ≠ w.heap.size := by omega
  have hne' : w.heap.size ≠ g := by omega
  have fa := (Fr.refl w []).alloc (Obj.cells [Value.slice (some ⟨gn, 0, none⟩) n cn, Value.slice (some ⟨gf, 0, none⟩) n cf, Value.slice A S.un.length capu, Value.bool S.on, Value.int .i64 S.fuse].toArray 68)
  have hc0 : Has (w.alloc (Obj.cells [Value.slice (some ⟨gn, 0, none⟩) n cn, Value.slice (some ⟨gf, 0, none⟩) n cf, Value.slice A S.un.length capu, Value.bool S.on, Value.int .i64 S.fuse].toArray 68)) w.heap.size 68 _ := heap_alloc_new w _
  refine (clone_sectors _ gn cn n _ (hnn.kept fa (by simp)) HNL.out (byteCells_one _) h3').mono ?_
  rintro e w1 ⟨v1, rfl, o1, bb1⟩
  obtain ⟨g1, k1, rfl, q1, q1'⟩ := o1.form (by omega)
  have fr1 := fa.trans (Fr.of_below bb1 []) (by simp)
  have hg1 := fr1.has hg (by simp)
  have hc1 := hc0.under bb1 hc0.lt
  simp only [World.size_alloc] at q1
  obtain ⟨c0, c1, c2, c3, c4, f0, f1, f2, f3, f4⟩ := head_cells hg1
  have hc10 := hc1.cell 0
  have hc10f := hc1.free 0
  have hs1 := fr1.size
  have hcs1 := hc1.lt
  have o1' := o1
  clear hg bb1 o1
  go_wp2_with fail
  have fr2 := fr1.setCell (p := ⟨w.heap.size, 0, none⟩) (.inr (Nat.le_refl _)) (.slice (some ⟨g1, 0, none⟩) n k1)
  have hc2 := hc1.put 0 (.slice (some ⟨g1, 0, none⟩) n k1)
  have o2 : (w1.setCell ⟨w.heap.size, 0, none⟩ (.slice (some ⟨g1, 0, none⟩) n k1)).ownsRow _ _ _ _ _ _ := ((Fr.refl w1 [w.heap.size]).setCell (p := ⟨w.heap.size, 0, none⟩) (by simp) (.slice (some ⟨g1, 0, none⟩) n k1)).owns o1' (by simp [Value.ownBlock]; omega)
  have hg1n : g1 < (w1.setCell ⟨w.heap.size, 0, none⟩ (.slice (some ⟨g1, 0, none⟩) n k1)).heap.size := by simp; exact q1'
  refine (clone_sectors _ gf cf n _ (hfl.kept fr2 (by simp)) HFL.out (byteCells_one _) h3').mono ?_
  rintro e w3 ⟨v3, rfl, o3, bb3⟩
  obtain ⟨g3, k3, rfl, q3, q3'⟩ := o3.form (by omega)
  have fr3 := fr2.trans (Fr.of_below bb3 []) (by simp)
  have hg3 : Has w3 g 68 _ := ((Fr.of_below bb3 []).has (((Fr.refl w1 [w.heap.size]).setCell (p := ⟨w.heap.size, 0, none⟩) (by simp) (.slice (some ⟨g1, 0, none⟩) n k1)).has hg1 (by simpa using hne)) (by simp))
  have hc3 := hc2.under bb3 hc2.lt
  have o13 : w3.ownsRow _ _ _ _ _ _ := (Fr.of_below bb3 []).owns o2 (by simp)
  have hs3 := fr3.size
  have hcs3 := hc3.lt
  have hg13 : g1 ≠ g3 := by omega
  have q3a : w.heap.size + 1 ≤ g3 := by have := hc2.lt; omega
  obtain ⟨c0, c1, c2, c3, c4, f0, f1, f2, f3, f4⟩ := head_cells hg3
  have hc30 := hc3.cell 1
  have hc30f := hc3.free 1
  have o3' := o3
  clear bb3 hg1 hc10 hc10f hc1 o3
  go_wp2_with fail
  have fr4 := fr3.setCell (p := ⟨w.heap.size, 1, none⟩) (.inr (Nat.le_refl _)) (.slice (some ⟨g3, 0, none⟩) n k3)
  have hc4 := hc3.put 1 (.slice (some ⟨g3, 0, none⟩) n k3)
  have f34 : Fr w3 (w3.setCell ⟨w.heap.size, 1, none⟩ (.slice (some ⟨g3, 0, none⟩) n k3)) [w.heap.size] := (Fr.refl w3 [w.heap.size]).setCell (by simp) _
  have o14 := f34.owns o13 (by simp [Value.ownBlock]; omega)
  have o34 := f34.owns o3' (by simp [Value.ownBlock]; omega)
  refine (clone_writes _ B _ S.un.length _ (fr4.owns hu (by simp)) (wcells_one _) h2).mono ?_
  rintro e w5 ⟨v5, rfl, o5, bb5⟩
  obtain ⟨A5, k5, rfl, _, _⟩ := own_slice o5
  have fr5 := fr4.trans (Fr.of_below bb5 []) (by simp)
  have hc5 := hc4.under bb5 hc4.lt
  have o15 : w5.ownsRow _ _ _ _ _ _ := (Fr.of_below bb5 []).owns o14 (by simp)
  have o35 : w5.ownsRow _ _ _ _ _ _ := (Fr.of_below bb5 []).owns o34 (by simp)
  have f56 : Fr w5 (w5.setCell ⟨w.heap.size, 2, none⟩ (.slice A5 S.un.length k5)) [w.heap.size] := (Fr.refl w5 [w.heap.size]).setCell (by simp) _
  have fr6 := fr5.setCell (p := ⟨w.heap.size, 2, none⟩) (.inr (Nat.le_refl _)) (.slice A5 S.un.length k5)
  have hc6 := hc5.put 2 (.slice A5 S.un.length k5)
  obtain ⟨r1, _, z1, z1'⟩ := Row.owns (f56.owns o15 (by simp [Value.ownBlock]; omega))
  obtain ⟨r3, _, z3, z3'⟩ := Row.owns (f56.owns o35 (by simp [Value.ownBlock]; omega))
  have o55 := f56.owns o5 (fun x hx => by
    have := (o5.lt x hx).1
    have := hc4.lt
    simp
    omega)
  have hfin : Copied w S (.returned (.pointer (some ⟨w.heap.size, 0, none⟩))) (w5.setCell ⟨w.heap.size, 2, none⟩ (.slice A5 S.un.length k5)) := by
    refine ⟨w.heap.size, _, rfl, ⟨g1, k1, g3, k3, .slice A5 S.un.length k5, h1, h2, by rw [← HN.out]; exact h3, by rw [← HN.out]; exact z1, by rw [← HN.out]; exact z3, z1', z3', hg13, by rw [← HN.out]; exact hc6, r1, r3, ?_, Nat.le_refl _, by omega, by omega, rfl⟩, fr6.below (by simp) (Nat.le_refl _)⟩
    refine ⟨o55.1, ?_⟩
    rcases o55.2 with hl | ⟨gg, cap, cur, hv, hb, rest⟩
    · exact .inl hl
    · refine .inr ⟨gg, cap, cur, hv, ?_, rest⟩
      have := hc4.lt
      omega
  have hc52 := hc5.cell 2
  have hc52f := hc5.free 2
  have HFIN := Lib.hid hfin
  clear hfin o55 r1 r3 o15 o35 o14 o34 o13 o5 bb5 o1' o3' o2
  go_wp2
  go_ret
  exact HFIN.out
theorem copy_none (w : World) : Calls Try.prog 8 #[.pointer none] w fun e w' => e = .returned (.pointer none) ∧ w = w' := by
  go_enter Try.func8, Try.ntmps8
  go_wp2
  go_ret
  exact ⟨rfl, rfl⟩
end DC
end Go.Proofs.Ytkhdidhpcdlmcaa
