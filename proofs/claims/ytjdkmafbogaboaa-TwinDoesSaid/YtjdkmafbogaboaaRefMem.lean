/- The document's disk in memory: what was flushed, and a list of writes; its New. -/
import Derived.Test.YtjdkmafbogaboaaDiskHave
import Derived.Test.YtjdkmafbogaboaaZeros
import Derived.Maps.AppendAt
namespace Go.Proofs.Ytjdkmafbogaboaa
open Go.RowKit Go.Lib MM MF DM DK DN FL DW DF MY
namespace RM
/-- The cells of its writes. -/
def ucells (u : List (Nat × List UInt8)) : List Value := (u.map fun x => [Value.int .i64 x.1, str x.2]).flatten
/-- At block g lies the document's disk S. -/
def Rf (B g : Nat) (S : St) (w : World) (fs : List Nat) : Prop :=
  ∃ (vf vw : Value), S.Ok ∧ S.un.length ≤ 1000000000 ∧ 1 ≤ S.fl.length ∧ Has w g 73 [vf, vw, .bool S.on, .int .i64 S.fuse] ∧
    w.ownsRow B 9 1 vf S.fl.length (S.fl.map str) ∧ w.ownsRow B 96 2 vw S.un.length (ucells S.un) ∧ B ≤ g ∧ fs = g :: (vf.ownBlock.toList ++ vw.ownBlock.toList)
theorem rf_kp (B g : Nat) (S : St) : Kp B (Rf B g S) := by
  constructor
  · rintro w fs ⟨vf, vw, h1, h2, h3, hg, hf, hu, hb, rfl⟩ x hx
    simp at hx
    rcases hx with rfl | hx | hx
    · exact ⟨hb, hg.lt⟩
    · exact hf.lt x hx
    · exact hu.lt x hx
  · rintro w w' fs gs ⟨vf, vw, h1, h2, h3, hg, hf, hu, hb, rfl⟩ k hn
    exact ⟨vf, vw, h1, h2, h3, k.has hg (hn _ (by simp)), k.owns hf (fun x hx => hn x (by simp [hx])), k.owns hu (fun x hx => hn x (by simp [hx])), hb, rfl⟩
theorem stringInfo : (Try.prog.info? 9).map (fun i => (i.zero, i.size, i.bytes)) = some (some (.string ⟨#[]⟩), 1, 16) := by kernel_rfl
/-- The relation of New's loop. -/
def Rel (w : World) (g n : Nat) (i : Value) (wr : World) : Prop := ∃ (k : Nat) (v : Value), k ≤ n ∧ i = .int .i64 k ∧ Has wr g 73 [v, .slice none 0 0, .bool true, .int .i64 0] ∧ wr.ownsRow w.heap.size 9 1 v k (List.replicate k (str zeros)) ∧ Below w.heap.size w wr
def RMade (w : World) (n : Nat) (e : Ending) (w' : World) : Prop := ∃ g fs, e = .returned (.pointer (some ⟨g, 0, none⟩)) ∧ Rf w.heap.size g (fresh n) w' fs ∧ Below w.heap.size w w'
theorem zeros_text1 (ZC : List Value) (hZ : ZC = byteCells zeros) (W : World) (o : Obj) : (convert 36 9 (.slice (some ⟨W.heap.size + 1, 0, none⟩) 128 128)).run Try.prog ((W.alloc o).alloc (.cells ZC.toArray 5)) = .ok (.string ⟨zeros.toArray⟩) ((W.alloc o).alloc (.cells ZC.toArray 5)) := by
  subst hZ
  have := ZE.zeros_text 128 (W.alloc o)
  rw [World.size_alloc] at this
  exact this
set_option maxRecDepth 100000 in
set_option maxHeartbeats 1000000 in
theorem rnew_walk (n : Nat) (h1 : 1 ≤ n) (h2 : n ≤ 4096) (w : World) : Calls Try.prog 8 #[.int .i64 n] w (RMade w n) := by
  obtain ⟨i0, hi0, hz0, hs0, hb0⟩ := info_parts stringInfo
  have hmk : ∀ W : World, (Instr.makeSlice 36 (.int .i64 128) (.int .i64 128)).run Try.prog W = .ok (.slice (some ⟨W.heap.size, 0, none⟩) 128 128) (W.alloc (.cells (byteCells zeros).toArray 5)) := ZE.make_zeros 128 (by omega)
  obtain ⟨ZC, hZ⟩ : ∃ ZC, ZC = byteCells zeros := ⟨_, rfl⟩
  rw [← hZ] at hmk
  have hzt := zeros_text1 ZC hZ
  have HI := Lib.hid hi0
  have HZ0 := Lib.hid hz0
  have HS0 := Lib.hid hs0
  have HB0 := Lib.hid hb0
  clear hZ hi0 hz0 hs0 hb0
  go_enter Try.func8, Try.ntmps8
  go_wp2
  go_loopw [5] (fun i wr => Rel w w.heap.size n i wr) (fun i _ => n - (RowKit.intOf i).toNat)
  case atStart =>
    refine ⟨0, _, by omega, rfl, ?_, World.ownsRow_nil _ _ _ _, (((Fr.refl w []).alloc _).alloc _).below (by simp) (Nat.le_refl _)⟩
    exact (show Has (w.alloc _) w.heap.size _ _ from heap_alloc_new w _).grow _
  case round =>
    obtain ⟨k, v, hk, rfl, hg, hown, hb⟩ := hrel
    have hgl : w.heap.size < wr.heap.size := hg.lt
    have hvg : v.ownBlock ≠ some w.heap.size := own_ne hown (Row.of_has hg) (by decide)
    by_cases hlt : k < n
    · have c0 := hg.cell 0
      have hown1 := hown.alloc (.cells #[str zeros] 9)
      have hnews : ∀ j u, [str zeros][j]? = some u → (wr.alloc (.cells #[str zeros] 9)).cell? ((⟨wr.heap.size, 0, none⟩ : Addr).add j) = some u := by
        intro j u hj
        rw [Addr.add_mid, Nat.zero_add]
        exact ((show Has (wr.alloc (.cells [str zeros].toArray 9)) wr.heap.size 9 _ from heap_alloc_new _ _).cell j).trans hj
      have hgA := hg.grow (.cells #[str zeros] 9)
      have HO := Lib.hid hown1
      have HN := Lib.hid hnews
      clear hown1 hnews hown
      go_wp2_with (first
        | (at_builtin
           refine wpList_append_lies _ rfl (.tmp 25) (.tmp 27) _ rfl w.heap.size 9 i0 _ 1 16 Try.underlying65 HI.out HZ0.out HS0.out HB0.out (by simp [Value.cells]) (by omega) v k (List.replicate k (str zeros)) rfl HO.out ⟨wr.heap.size, 0, none⟩ 1 1 [str zeros] rfl rfl HN.out (by intro u hu; simp at hu; subst hu; rfl) (by omega) (by unfold maxLen; omega) (by omega) (by simp; omega) (wr.heap.size + 1) (by simp) ?_
           intro gu cu w2 hown2 hgrow hat hlt2
           have hg2 : Has w2 w.heap.size 73 _ := (Fr.of_grown hgrow (fs := v.ownBlock.toList) (by simp)).has hgA (by simp; exact hvg)
           have d0 := hg2.cell 0
           have d0f := hg2.free 0
           clear c0 HN))
      have hgu : gu ≠ w.heap.size := by
        rcases hat with h | h
        · exact fun e => hvg (by rw [h, e])
        · omega
      have hown3 := ((Fr.refl w2 [w.heap.size]).setCell (p := ⟨w.heap.size, 0, none⟩) (by simp) (.slice (some ⟨gu, 0, none⟩) (k + 1) cu)).owns hown2 (by simp [Value.ownBlock]; exact hgu)
      have hg3 := hg2.put 0 (.slice (some ⟨gu, 0, none⟩) (k + 1) cu)
      have hb3 : Below w.heap.size w (w2.setCell ⟨w.heap.size, 0, none⟩ (.slice (some ⟨gu, 0, none⟩) (k + 1) cu)) := by
        have q1 : Below w.heap.size w w2 := (hb.alloc hb.size _).grown hgrow (by simp; omega) (fun x hx => (HO.out.lt x hx).1)
        exact q1.setCell (p := ⟨w.heap.size, 0, none⟩) (Nat.le_refl _) _
      go_roundw
      case rel => exact ⟨k + 1, _, by omega, by go_num, hg3, by rw [List.replicate_succ']; exact hown3, hb3⟩
      case measure => simp [RowKit.intOf]; omega
    · have hkn : k = n := by omega
      subst hkn
      go_wp2
      go_ret
      refine ⟨w.heap.size, _, rfl, ⟨v, .slice none 0 0, fresh_ok k h2, by simp [fresh], by simpa [fresh] using h1, hg, ?_, World.ownsRow_nil _ _ _ _, Nat.le_refl _, rfl⟩, hb⟩
      simpa [fresh] using hown
theorem rnew_none (n : Int) (h : n < 1 ∨ 4096 < n) (w : World) : Calls Try.prog 8 #[.int .i64 n] w fun e w' => e = .returned (.pointer none) ∧ w = w' := by
  rcases h with h | h
  · go_enter Try.func8, Try.ntmps8
    go_wp2
    go_ret
    exact ⟨rfl, rfl⟩
  · have h' : ¬ n < 1 := by omega
    go_enter Try.func8, Try.ntmps8
    go_wp2
    go_ret
    exact ⟨rfl, rfl⟩
end RM
end Go.Proofs.Ytjdkmafbogaboaa
