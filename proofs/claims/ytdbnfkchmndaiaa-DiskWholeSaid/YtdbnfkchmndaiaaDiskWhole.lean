/- For any puts, cut to the first forty, any fates: if all unflushed writes stay, a Wake changes nothing; if all are lost, all is as it was flushed; what is flushed ahead is touched by no fates; a second Wake changes nothing. No condition. -/
import Derived.Test.YtdbnfkchmndaiaaDiskMany
import Derived.Test.YtdbnfkchmndaiaaBlocks
import Derived.Test.YtdbnfkchmndaiaaPuts
import Derived.Test.YtdbnfkchmndaiaaLawKit
namespace Go.Proofs.Ytdbnfkchmndaiaa
open Go.ChangeShapes Go.WideShapes Go.ChangeAt Go.RowKit Go.Lib MM MF DM DK DN FL DW DF DU MS DC DL DO LK MY DP BL PU
namespace DiskWhole
/-- The disk, and what the statement keeps of it, behind i puts. -/
structure Inv (S : St) (sb : List Bool) (i : Nat) : Prop where
  on : S.on = true
  fuse : S.fuse = 0
  eight : S.fl.length = 8
  few : S.un.length ≤ i
  eights : sb.length = 8
  since : ∀ j : Nat, sb[j]? = some false → ∀ x ∈ S.un, x.1 ≠ j
theorem inv_fresh : Inv (fresh 8) (List.replicate 8 false) 0 := ⟨rfl, rfl, List.length_replicate, by simp [fresh], List.length_replicate, by intro j _ x hx; simp [fresh] at hx⟩
theorem inv_write {S : St} {sb : List Bool} {i q : Nat} (h : Inv S sb i) (hq : q < 8) (l : List UInt8) (hl : l.length = 128) :
    writeE S q l = 0 ∧ Inv (writeS S q l) (sb.set q true) (i + 1) ∧ (writeS S q l).fl = S.fl ∧ (writeS S q l).now = S.now.set q l := by
  have hr : refuse S q = 0 := refuse_in h.on (by omega) (by rw [h.eight]; omega)
  have hop : opOk S = true := by unfold opOk; rw [h.fuse]; rfl
  have ho : opS S = S := by unfold opS; rw [if_pos h.fuse]
  have e : writeS S q l = { S with un := S.un ++ [(q, l)] } := by unfold writeS; rw [if_neg (by simp [hr]), if_neg (by simp [hl]), if_pos hop, ho]; rfl
  refine ⟨by unfold writeE; rw [if_neg (by simp [hr]), if_neg (by simp [hl]), if_pos hop], ?_, by rw [e], by rw [e]; exact nowOf_snoc _ _ _⟩
  rw [e]
  refine ⟨h.on, h.fuse, h.eight, by have := h.few; simp; omega, by rw [List.length_set]; exact h.eights, ?_⟩
  intro j hj x hx
  rcases List.mem_append.1 hx with hx | hx
  · by_cases hjq : j = q
    · subst hjq
      rw [List.getElem?_set_self (by rw [h.eights]; exact hq)] at hj
      cases hj
    · rw [List.getElem?_set_ne (Ne.symm hjq)] at hj
      exact h.since j hj x hx
  · simp at hx
    subst hx
    intro e
    have e' : q = j := e
    subst e'
    rw [List.getElem?_set_self (by rw [h.eights]; exact hq)] at hj
    cases hj
theorem inv_flush {S : St} {sb : List Bool} {i : Nat} (h : Inv S sb i) : flushE S = 0 ∧ Inv (flushS S) (List.replicate 8 false) i ∧ (flushS S).fl = S.now ∧ (flushS S).now = S.now := by
  have hop : opOk S = true := by unfold opOk; rw [h.fuse]; rfl
  have ho : opS S = S := by unfold opS; rw [if_pos h.fuse]
  have e : flushS S = { S with fl := S.now, un := [] } := by unfold flushS; rw [if_pos h.on, if_pos hop, ho]
  refine ⟨by unfold flushE; rw [if_pos ⟨h.on, hop⟩], ?_, by rw [e], by rw [e]; rfl⟩
  rw [e]
  exact ⟨h.on, h.fuse, by show S.now.length = 8; rw [St.now_length, h.eight], by simp, List.length_replicate, by intro j _ x hx; simp at hx⟩
/-- The three that wake. -/
def offS (S : St) : St := { S with on := false, fuse := 0 }
theorem wake_off_S (S : St) (cs : List UInt8) : wakeS (offS S) cs = { S with fl := woken S.fl S.un cs, un := [], on := true, fuse := 0 } := by unfold wakeS offS; rw [if_neg (by simp)]
theorem woken_ones {S : St} (hok : S.Ok) (n : Nat) (hn : S.un.length ≤ n) : woken S.fl S.un (List.replicate n 1) = S.now := by
  unfold woken
  rw [wokenTo_ones S.fl S.un _ hok.1 hok.2.1 _ (Nat.le_refl _) (fun i hi => by rw [List.getD_eq_getElem?_getD, List.getElem?_replicate, if_pos (by omega)]; rfl), List.take_length]
  rfl
theorem woken_none {S : St} (hok : S.Ok) : woken S.fl S.un [] = S.fl := wokenTo_none S.fl S.un hok.2.1 _ (Nat.le_refl _)
theorem woken_since {S : St} (cs : List UInt8) (j : Nat) (h : ∀ x ∈ S.un, x.1 ≠ j) : (woken S.fl S.un cs).getD j [] = S.fl.getD j [] := by
  have := wokenTo_away (f := S.fl) cs j h S.un.length (Nat.le_refl _)
  simp only [List.getD_eq_getElem?_getD]
  unfold woken
  rw [this]
theorem read_at {F : List (List UInt8)} {fuse : Nat} (j : Nat) (hj : j < F.length) : refuse ⟨F, [], true, fuse⟩ j = 0 ∧ readT ⟨F, [], true, fuse⟩ j = F.getD j [] := by
  have hr : refuse ⟨F, [], true, fuse⟩ j = 0 := refuse_in rfl (by omega) (by show (j : Int) < F.length; omega)
  exact ⟨hr, by unfold readT; rw [if_pos hr, Int.toNat_natCast]; rfl⟩
/-- The cells of the statement's arrays. -/
def scells (L : List (List UInt8)) : List Value := L.map fun l => .string ⟨l.toArray⟩
theorem scells_at {L : List (List UInt8)} {j : Nat} (h : j < L.length) : (scells L)[j]? = some (.string ⟨(L.getD j []).toArray⟩) := by
  unfold scells
  rw [List.getElem?_map, List.getElem?_eq_getElem h, List.getD_eq_getElem?_getD, List.getElem?_eq_getElem h]
  rfl
theorem scells_set (L : List (List UInt8)) (j : Nat) (l : List UInt8) : (scells L).set j (.string ⟨l.toArray⟩) = scells (L.set j l) := by unfold scells; rw [List.map_set]
theorem scells_length (L : List (List UInt8)) : (scells L).length = L.length := by simp [scells]
def bcells (sb : List Bool) : List Value := sb.map .bool
theorem bcells_set (sb : List Bool) (j : Nat) (b : Bool) : (bcells sb).set j (.bool b) = bcells (sb.set j b) := by unfold bcells; rw [List.map_set]
/-- Zeros at the first k places. -/
def zs (k : Nat) : List (List UInt8) := List.replicate k zeros ++ List.replicate (8 - k) []
theorem zs_set (k : Nat) (h : k < 8) : (zs k).set k zeros = zs (k + 1) := by
  unfold zs
  rw [List.set_append_right _ _ (by simp), List.length_replicate, Nat.sub_self, show 8 - k = (8 - (k + 1)) + 1 by omega, List.replicate_succ, List.set_cons_zero, List.replicate_succ', List.append_assoc]
  rfl
theorem zs_length (k : Nat) (h : k ≤ 8) : (zs k).length = 8 := by unfold zs; simp; omega
theorem zs_end : zs 8 = (fresh 8).fl ∧ zs 8 = (fresh 8).now := ⟨rfl, rfl⟩
def ones (k : Nat) : List UInt8 := List.replicate k 1 ++ List.replicate (40 - k) 0
theorem ones_set (k : Nat) (h : k < 40) : (ones k).set k 1 = ones (k + 1) := by
  unfold ones
  rw [List.set_append_right _ _ (by simp), List.length_replicate, Nat.sub_self, show 40 - k = (40 - (k + 1)) + 1 by omega, List.replicate_succ, List.set_cons_zero, List.replicate_succ', List.append_assoc]
  rfl
theorem ones_length (k : Nat) (h : k ≤ 40) : (ones k).length = 40 := by unfold ones; simp; omega
theorem ones_end : ones 40 = List.replicate 40 1 := by unfold ones; simp
def Rel1 (w : World) (g a b c : Nat) (x : Value) (wr : World) : Prop := ∃ k : Nat, k ≤ 8 ∧ x = .int .i64 k ∧ All w wr [Di w.heap.size g (fresh 8), Bl w.heap.size a 54 (scells (zs k)), Bl w.heap.size b 54 (scells (zs k)), Bl w.heap.size c 55 (bcells (List.replicate 8 false))]
def Rel2 (w : World) (g a b c n : Nat) (x : Value) (wr : World) : Prop := ∃ (k : Nat) (S : St) (sb : List Bool), k ≤ n ∧ k ≤ 40 ∧ x = .int .i64 k ∧ Inv S sb k ∧ All w wr [Di w.heap.size g S, Bl w.heap.size a 54 (scells S.now), Bl w.heap.size b 54 (scells S.fl), Bl w.heap.size c 55 (bcells sb)]
def Rel3 (w : World) (o : Nat) (Ps : List (World → List Nat → Prop)) (x : Value) (wr : World) : Prop := ∃ k : Nat, k ≤ 40 ∧ x = .int .i64 k ∧ All w wr (Bl w.heap.size o 5 (byteCells (ones k)) :: Ps)
theorem rev5 {w0 w : World} {a b c d e : World → List Nat → Prop} {Ps : List (World → List Nat → Prop)} (h : All w0 w (a :: b :: c :: d :: e :: Ps)) : All w0 w (e :: d :: c :: b :: a :: Ps) := h.perm ((List.reverse_perm [a, b, c, d, e]).symm.append_right Ps)
theorem make_ones (W : World) : (Instr.makeSlice 30 (.int .i64 40) (.int .i64 40)).run Try.prog W = .ok (.slice (some ⟨W.heap.size, 0, none⟩) 40 40) (W.alloc (.cells (byteCells (ones 0)).toArray 5)) := by
  obtain ⟨i0, hi, hz, hs, hb⟩ := info_parts byteInfo
  have := run_make_rowN (P := Try.prog) 30 5 i0 _ Try.underlying30 hi hz .i64 .i64 40 40 (Nat.le_refl _) (by rw [hb]; omega) (by omega) W
  rw [hs] at this
  simp only [Value.cells] at this
  rw [made_bytes] at this
  have e : byteCells (ones 0) = List.replicate (40 * 1) (Value.int .u8 0) := by unfold ones byteCells; simp
  rw [e]
  exact this
theorem ones_cells (k : Nat) (h : k < 40) : (byteCells (ones k)).set k (.int .u8 1) = byteCells (ones (k + 1)) := by
  rw [← ones_set k h]; unfold byteCells; rw [List.map_set]; rfl
/-- Fates that are cut. -/
theorem src_take {w : World} {A : Option Addr} {cap : Nat} {cs : List UInt8} (h : Src w (.slice A cs.length cap) cs) (m : Nat) : Src w (.slice A (cs.take m).length cap) (cs.take m) := by
  rcases h with ⟨rfl, _⟩ | ⟨h0, b, off, cap', hv, h1, h2, h3, h4⟩
  · exact .inl ⟨by simp, A, cap, by simp⟩
  · injection hv with e1 _ e3
    subst e1 e3
    rcases Nat.eq_zero_or_pos m with hm | hm
    · subst hm
      exact .inl ⟨by simp, some ⟨b, off, none⟩, cap, by simp⟩
    · refine .inr ⟨by rw [List.length_take]; omega, b, off, _, rfl, by rw [List.length_take]; omega, h2, h3, fun i hi => ?_⟩
      rw [List.length_take] at hi
      rw [h4 i (by omega), List.getElem_take]
theorem src_cap {w : World} {A : Option Addr} {cap : Nat} {cs : List UInt8} (h : Src w (.slice A cs.length cap) cs) : cs.length ≤ cap := by
  rcases h with ⟨rfl, _⟩ | ⟨h0, b, off, cap', hv, h1, _⟩
  · simp
  · injection hv with _ _ e3
    omega
theorem wake_again (F : List (List UInt8)) (b : Bool) (n k : Nat) (cs : List UInt8) : wakeS { ({ fl := F, un := [], on := b, fuse := n } : St) with on := false, fuse := k } cs = { fl := F, un := [], on := true, fuse := k } := by unfold wakeS; rw [if_neg (by simp)]; show St.mk (woken F [] cs) [] true k = _; rw [show woken F [] cs = F from rfl]
def Rel4 (x : Value) : Prop := ∃ k : Nat, k ≤ 8 ∧ x = .int .i64 k
set_option maxRecDepth 100000 in
set_option maxHeartbeats 8000000 in
theorem walk (A : Option Addr) (cap : Nat) (l : List Put) (v : Value) (cs : List UInt8) (w : World) (hl : Reads w w.heap.size A l) (hlc : l.length ≤ 9223372036854775807) (hs : Src w v cs) (hcs : cs.length ≤ 9223372036854775807) :
    Calls Try.prog 8 #[.slice A l.length cap, v] w fun e w' => e = .returned (.bool true) ∧ Below w.heap.size w w' := by
  obtain ⟨Af, capf, rfl⟩ := src_form hs
  have hmk := make_bytes
  obtain ⟨ZC, hZ⟩ : ∃ ZC, ZC = byteCells zeros := ⟨_, rfl⟩
  rw [← hZ] at hmk
  have hzt := DO.zeros_text ZC hZ
  have HL := Lib.hid hl
  have HS := Lib.hid hs
  clear hZ hl hs
  go_enter Try.func8, Try.ntmps8
  go_wp2_with fail
  refine (di_new (All.start w) 8 _ rfl (by omega) (by omega)).mono ?_
  rintro e w1 ⟨g, rfl, o1⟩
  have p1 := all_fourth_back (bl_new (all_third_back (bl_new ((bl_new o1 54 (scells (zs 0))).swap) 54 (scells (zs 0)))) 55 (bcells (List.replicate 8 false)))
  simp only [World.size_alloc] at p1
  clear o1
  go_wp2
  go_loopw [9] (fun x wr => Rel1 w g w1.heap.size (w1.heap.size + 1) (w1.heap.size + 1 + 1) x wr) (fun x _ => 8 - (RowKit.intOf x).toNat)
  case atStart => exact ⟨0, by omega, rfl, p1⟩
  case round =>
    obtain ⟨k, hk, rfl, hA⟩ := hrel
    have ha := all_has (g := w1.heap.size) (t := 54) (cs := scells (zs k)) hA (by simp)
    have hb := all_has (g := w1.heap.size + 1) (t := 54) (cs := scells (zs k)) hA (by simp)
    by_cases hlt : k < 8
    · have hlen : (scells (zs k)).length = 8 := by rw [scells_length, zs_length k hk]
      obtain ⟨u, hu⟩ : ∃ u, (wr.alloc (.cells ZC.toArray 5)).cell? ⟨w1.heap.size, k, none⟩ = some u := ⟨_, ((ha.grow _).cell k).trans (List.getElem?_eq_getElem (by omega))⟩
      obtain ⟨u2, hu2⟩ : ∃ u, (wr.alloc (.cells ZC.toArray 5)).cell? ⟨w1.heap.size + 1, k, none⟩ = some u := ⟨_, ((hb.grow _).cell k).trans (List.getElem?_eq_getElem (by omega))⟩
      have hf1 := (ha.grow (.cells ZC.toArray 5)).free k
      have hf2 := (hb.grow (.cells ZC.toArray 5)).free k
      have q := all_third_back (bl_put (all_third ((bl_put (hA.alloc (.cells ZC.toArray 5)).swap k (.string ⟨zeros.toArray⟩)).swap)) k (.string ⟨zeros.toArray⟩))
      rw [scells_set, zs_set k hlt] at q
      have Q := Lib.hid q
      clear q hlen
      go_wp2
      go_roundw
      case rel => exact ⟨k + 1, by omega, by go_num, Q.out⟩
      case measure => simp [RowKit.intOf]; omega
    · have hk8 : k = 8 := by omega
      have hd8 : decide ((k : Int) < 8) = false := by simp; omega
      rw [hk8] at hA
      clear hk8
      have hA2 : All w wr [Di w.heap.size g (fresh 8), Bl w.heap.size w1.heap.size 54 (scells (fresh 8).now), Bl w.heap.size (w1.heap.size + 1) 54 (scells (fresh 8).fl), Bl w.heap.size (w1.heap.size + 1 + 1) 55 (bcells (List.replicate 8 false))] := hA
      clear hA p1 ha hb
      have nab : w1.heap.size ≠ w1.heap.size + 1 := by omega
      have nac : w1.heap.size ≠ w1.heap.size + 1 + 1 := by omega
      have nbc : w1.heap.size + 1 ≠ w1.heap.size + 1 + 1 := by omega
      generalize w1.heap.size + 1 + 1 = gc at *
      generalize w1.heap.size + 1 = gb at *
      generalize w1.heap.size = ga at *
      obtain ⟨w2, hw2⟩ : ∃ w2 : World, w2 = wr := ⟨_, rfl⟩
      subst hw2
      go_wp2
      go_loopw [10] (fun x wr => Rel2 w g ga gb gc l.length x wr) (fun x _ => 40 - (RowKit.intOf x).toNat)
      case atStart => exact ⟨0, fresh 8, List.replicate 8 false, by omega, by omega, rfl, inv_fresh, hA2⟩
      case round =>
        clear hA2
        obtain ⟨k, S, sb, hkn, hk40, rfl, hI, hA⟩ := hrel
        by_cases hgo : k < l.length ∧ k < 40
        · obtain ⟨hkl, hk4⟩ := hgo
          obtain ⟨b, off, rfl, hblt, hat⟩ := HL.out (by omega)
          have hk4I : decide ((k : Int) < 40) = true := by simp; omega
          obtain ⟨x, hx⟩ : ∃ x, l[k]? = some x := ⟨_, List.getElem?_eq_getElem hkl⟩
          obtain ⟨d0, d1, d2⟩ := hat k x hx
          have hbc := fun (W : World) (hB : Below w.heap.size w W) (j : Nat) => hB.cell (p := ⟨b, off + k * 3 + j, none⟩) hblt
          have d0r : wr.cell? ⟨b, off + k * 3, none⟩ = _ := (hbc wr hA.under 0).trans d0
          have d1r : wr.cell? ⟨b, off + k * 3 + 1, none⟩ = _ := (hbc wr hA.under 1).trans d1
          have HBC := Lib.hid hbc
          have D2 := Lib.hid d2
          have hq8 : x.at'.toNat % 8 < 8 := Nat.mod_lt _ (by omega)
          have hq : (x.at'.toNat : Int) % 8 = ((x.at'.toNat % 8 : Nat) : Int) := by omega
          clear hat hx hbc d0 d1 d2
          generalize x.at'.toNat % 8 = q at *
          have hqI : (q : Int) < 8 := by omega
          have hq0 : (0 : Int) ≤ q := by omega
          have hnl : S.now.length = 8 := by rw [St.now_length]; exact hI.eight
          go_wp2_with fail
          refine (sector_walk x.letter false _).mono ?_
          rintro e w3 ⟨rfl, b3⟩
          have hA3 := hA.below b3
          have hL : (sectS x.letter false).length = 128 := by simp [sectS, sectB_length]
          generalize sectS x.letter false = L at *
          have ha := all_has (g := ga) (t := 54) (cs := scells S.now) hA3 (by simp)
          have hc := all_has (g := gc) (t := 55) (cs := bcells sb) hA3 (by simp)
          obtain ⟨u, hu⟩ : ∃ u, w3.cell? ⟨ga, q, none⟩ = some u := ⟨_, (ha.cell q).trans (scells_at (by omega))⟩
          obtain ⟨u2, hu2⟩ : ∃ u, w3.cell? ⟨gc, q, none⟩ = some u := ⟨_, (hc.cell q).trans (List.getElem?_eq_getElem (by unfold bcells; rw [List.length_map, hI.eights]; exact hq8))⟩
          have hf1 := ha.free q
          have hf2 := hc.free q
          have h4 := all_fourth_back (bl_put (all_fourth (bl_put hA3.swap q (.string ⟨L.toArray⟩)).swap) q (.bool true))
          rw [scells_set, bcells_set] at h4
          obtain ⟨y1, y2, y3, y4⟩ := inv_write hI hq8 L hL
          have hfew : S.un.length < 1000000000 := by have := hI.few; omega
          have Y1 := Lib.hid y1
          have H4 := Lib.hid h4
          have HLL := Lib.hid hL
          clear h4 hA hA3 b3 hL y1 hnl d0r d1r
          go_wp2_with fail
          refine (di_write H4.out _ _ hfew).mono ?_
          rintro e w5 ⟨rfl, h5⟩
          rw [Y1.out]
          rw [← y4, ← y3] at h5
          clear y3 y4 H4 ha hc hu hu2 hf1 hf2 hI hfew Y1
          generalize writeS S q L = S' at *
          have d2 : w5.cell? ⟨b, off + k * 3 + 2, none⟩ = some (.bool x.flush) := (HBC.out w5 h5.under 2).trans D2.out
          cases hfl : x.flush with
          | false =>
            rw [hfl] at d2
            clear hfl
            go_wp2
            go_roundw
            case rel => exact ⟨k + 1, S', sb.set q true, by omega, by omega, by go_num, y2, h5⟩
            case measure => simp [RowKit.intOf]; omega
          | true =>
            rw [hfl] at d2
            clear hfl
            obtain ⟨z1, z2, z3, z4⟩ := inv_flush y2
            have Z1 := Lib.hid z1
            clear z1
            go_wp2_with fail
            refine (di_flush h5).mono ?_
            rintro e w6 ⟨rfl, h6⟩
            rw [Z1.out]
            have ha6 := all_has (g := ga) (t := 54) (cs := scells S'.now) h6 (by simp)
            have hb6 := all_has (g := gb) (t := 54) (cs := scells S'.fl) h6 (by simp)
            have hld := (Row.of_has ha6).range 0 (scells S'.now) (fun j hj => by rw [Nat.zero_add])
            have hnl : (scells S'.now).length = 8 := by rw [scells_length, St.now_length]; exact y2.eight
            have hnf : (scells S'.fl).length = 8 := by rw [scells_length]; exact y2.eight
            have hone : ∀ v ∈ scells S'.now, v.oneCell' = true := by intro v hv; unfold scells at hv; obtain ⟨_, _, rfl⟩ := List.mem_map.1 hv; rfl
            have hsz : (Try.prog.info? 54).map (·.size) = some (scells S'.now).length := by rw [hnl]; kernel_rfl
            have hszb : (Try.prog.info? 55).map (·.size) = some (bcells (List.replicate 8 false)).length := by kernel_rfl
            have hbl : (bcells (sb.set q true)).length = 8 := by unfold bcells; rw [List.length_map]; exact y2.eights
            have HLD := Lib.hid hld
            have HNL := Lib.hid hnl
            have HNF := Lib.hid hnf
            have HONE := Lib.hid hone
            have HSZ := Lib.hid hsz
            have HSZB := Lib.hid hszb
            have HBLN := Lib.hid hbl
            clear hld hnl hnf hone hsz hszb hbl d2 h5
            go_wp2_with (first
              | (refine wpList_load_mid rfl _ (.tmp 6) rfl ga 0 rfl (scells S'.now) _ HLD.out Try.underlying54 rfl HSZ.out ?_)
              | (refine wpList_store_has rfl _ (.tmp 7) (.tmp 80) rfl gb (scells S'.now) rfl rfl 54 (scells S'.fl) hb6 (by rw [HNL.out, HNF.out]) HSZ.out HONE.out ?_
                 intro w7 hw7 hf7
                 have h7 := all_third_back (bl_all (all_third h6) hw7 hf7)
                 have hc7 := all_has (g := gc) (t := 55) (cs := bcells (sb.set q true)) h7 (by simp))
              | (refine wpList_store_has rfl _ (.tmp 8) (.tmp 81) rfl gc (bcells (List.replicate 8 false)) rfl rfl 55 (bcells (sb.set q true)) hc7 (by rw [HBLN.out]; rfl) HSZB.out (by decide) ?_
                 intro w8 hw8 hf8
                 have h8 := all_fourth_back (bl_all (all_fourth h7) hw8 hf8)))
            rw [← z3] at h8
            have e4 : (flushS S').fl = (flushS S').now := z3.trans z4.symm
            go_roundw
            case rel => exact ⟨k + 1, flushS S', List.replicate 8 false, by omega, by omega, by go_num, z2, by rw [← e4]; exact h8⟩
            case measure => simp [RowKit.intOf]; omega
        · have hok := di_ok hA
          have hmk40 := make_ones
          have hex : (l.length ≤ k ∧ decide ((k : Int) < (l.length : Int)) = false) ∨ (k < l.length ∧ decide ((k : Int) < (l.length : Int)) = true ∧ 40 ≤ k ∧ decide ((k : Int) < 40) = false) := by
            rcases Nat.lt_or_ge k l.length with h | h
            · exact .inr ⟨h, by simp; omega, by omega, by simp; omega⟩
            · exact .inl ⟨h, by simp; omega⟩
          have hcut := src_take HS.out 60
          have hmin : (cs.take 60).length = min cs.length 60 := by rw [List.length_take]; omega
          have q1 := woken_ones hok 40 (by have := hI.few; omega)
          have q2 := woken_none hok
          have q3 := fun j h => woken_since (S := S) (cs.take 60) j h
          have hl3 : (woken S.fl S.un (cs.take 60)).length = 8 := by unfold woken; rw [wokenTo_length]; exact hI.eight
          have w1' := wake_off_S S (List.replicate 40 1)
          have w2' := wake_off_S S []
          have w3' := wake_off_S S (cs.take 60)
          rw [q1] at w1'
          rw [q2] at w2'
          generalize woken S.fl S.un (cs.take 60) = F3 at *
          have hcl : (cs.take 60).length ≤ 9223372036854775807 := by rw [hmin]; omega
          generalize cs.take 60 = cc at *
          have HCUT := Lib.hid hcut
          have HMIN := Lib.hid hmin
          have HL3 := Lib.hid hl3
          have W1 := Lib.hid w1'
          have W2 := Lib.hid w2'
          have W3 := Lib.hid w3'
          have Q3 := Lib.hid q3
          have HI := Lib.hid hI
          have HON := Lib.hid ones_end
          clear hcut hmin hl3 w1' w2' w3' q1 q2 q3 hok hgo hI
          rcases hex with ⟨hx1, hx2⟩ | ⟨hx1, hx2, hx3, hx4⟩
          all_goals
            go_wp2_with fail
            refine (di_copy hA).mono ?_
            rintro e w3 ⟨g1, rfl, a1⟩
            replace a1 := a1.swap
            clear hA
            go_wp2_with fail
            refine (di_copy a1).mono ?_
            rintro e w4 ⟨g2, rfl, a2⟩
            replace a2 := a2.swap
            clear a1
            go_wp2_with fail
            refine (di_copy a2).mono ?_
            rintro e w5 ⟨g3, rfl, a3⟩
            have a4 := bl_new a3 5 (byteCells (ones 0))
            clear a2 a3
            generalize hgo5 : w5.heap.size = go5 at *
            go_wp2
            clear hgo5 hmk40
            obtain ⟨w6, hw6⟩ : ∃ w6 : World, w6 = wr := ⟨_, rfl⟩
            subst hw6
            go_loopw [16] (fun x wr => Rel3 w go5 [Di w.heap.size g3 S, Di w.heap.size g S, Di w.heap.size g2 S, Di w.heap.size g1 S, Bl w.heap.size ga 54 (scells S.now), Bl w.heap.size gb 54 (scells S.fl), Bl w.heap.size gc 55 (bcells sb)] x wr) (fun x _ => 40 - (RowKit.intOf x).toNat)
            case atStart => exact ⟨0, by omega, rfl, a4⟩
            case round =>
              clear a4
              obtain ⟨m, hm, rfl, hA⟩ := hrel
              have ho := all_has (g := go5) (t := 5) (cs := byteCells (ones m)) hA (by simp)
              by_cases hlt3 : m < 40
              · obtain ⟨u, hu⟩ : ∃ u, wr.cell? ⟨go5, m, none⟩ = some u := ⟨_, (ho.cell m).trans (List.getElem?_eq_getElem (by rw [byteCells_length, ones_length m hm]; exact hlt3))⟩
                have hf := ho.free m
                have hp := bl_put hA m (.int .u8 1)
                rw [ones_cells m hlt3] at hp
                have HP := Lib.hid hp
                clear hp
                go_wp2
                go_roundw
                case rel => exact ⟨m + 1, by omega, by go_num, HP.out⟩
                case measure => simp [RowKit.intOf]; omega
              · have hm40 : m = 40 := by omega
                rw [hm40, HON.out] at hA
                have hd40 : decide ((m : Int) < 40) = false := by simp; omega
                clear hm40 ho
                have a5 := rev5 hA
                clear hA
                go_wp2_with fail
                refine (di_off a5).mono ?_
                rintro e w7 ⟨rfl, a6⟩
                replace a6 := a6.swap
                clear a5
                go_wp2_with fail
                refine (di_off a6).mono ?_
                rintro e w8 ⟨rfl, a7⟩
                replace a7 := all_fourth a7
                clear a6
                go_wp2_with fail
                refine (di_off a7).mono ?_
                rintro e w9 ⟨rfl, a8⟩
                replace a8 : All w w9 [Di w.heap.size g1 (offS S), Di w.heap.size g3 (offS S), Di w.heap.size g2 (offS S), Di w.heap.size g S, Bl w.heap.size go5 5 (byteCells (List.replicate 40 1)), Bl w.heap.size ga 54 (scells S.now), Bl w.heap.size gb 54 (scells S.fl), Bl w.heap.size gc 55 (bcells sb)] := all_third a8
                clear a7
                go_wp2_with fail
                have ho9 := all_has (g := go5) (t := 5) (cs := byteCells (List.replicate 40 1)) a8 (by simp)
                refine (di_wake_in a8 (List.replicate 40 1) (by simp) (by simp [maxLen]) go5 40 40 (by simp) (by simp) _ rfl ho9).mono ?_
                rintro e w10 ⟨rfl, b1⟩
                rw [W1.out] at b1
                replace b1 := all_third b1
                clear a8 ho9
                go_wp2_with fail
                refine (di_wake_nil b1).mono ?_
                rintro e w11 ⟨rfl, b2⟩
                rw [W2.out] at b2
                replace b2 := all_third b2
                clear b1
                have hm0 : (0 : Int) ≤ min (cs.length : Int) 60 := by omega
                have hm1 : min (cs.length : Int) 60 ≤ (capf : Int) := by have := src_cap HS.out; omega
                have hm2 : (min (cs.length : Int) 60).toNat = cc.length := by rw [HMIN.out]; omega
                go_wp2_with fail
                clear hm0 hm1 hm2
                refine (di_wake_old b2 _ cc hcl HCUT.out).mono ?_
                rintro e w12 ⟨rfl, b3⟩
                rw [W3.out] at b3
                clear b2
                have H3 := HL3.out
                have HN8 : S.now.length = 8 := by rw [St.now_length]; exact HI.out.eight
                have HF8 : S.fl.length = 8 := HI.out.eight
                have hga := all_has (g := ga) (t := 54) (cs := scells S.now) b3 (by simp)
                have hgb := all_has (g := gb) (t := 54) (cs := scells S.fl) b3 (by simp)
                have hgc := all_has (g := gc) (t := 55) (cs := bcells sb) b3 (by simp)
                have HGA := Lib.hid (fun (j : Nat) (hj : j < 8) => (hga.cell j).trans (scells_at (L := S.now) (j := j) (by omega)))
                have HGB := Lib.hid (fun (j : Nat) (hj : j < 8) => (hgb.cell j).trans (scells_at (L := S.fl) (j := j) (by omega)))
                have HGC := Lib.hid hgc
                have hq3 := Q3.out
                have R1 := Lib.hid (fun (j : Nat) (hj : j < 8) => read_at (F := S.now) (fuse := 0) j (by omega))
                have R2 := Lib.hid (fun (j : Nat) (hj : j < 8) => read_at (F := S.fl) (fuse := 0) j (by omega))
                have R3 := Lib.hid (fun (j : Nat) (hj : j < 8) => read_at (F := F3) (fuse := 0) j (by omega))
                have b4 := all_third b3
                have b5 := b3.swap
                have B3 := Lib.hid b3
                have B4 := Lib.hid b4
                have B5 := Lib.hid b5
                have hH3 := Lib.hid H3
                have hHN8 := Lib.hid HN8
                have hHF8 := Lib.hid HF8
                clear b3 b4 b5 hga hgb hgc H3 HN8 HF8 hq3
                go_wp2
                go_loopw [17] (fun x wr => (∃ j : Nat, j ≤ 8 ∧ x = .int .i64 j) ∧ wr = w12) (fun x _ => 8 - (RowKit.intOf x).toNat)
                case atStart => exact ⟨⟨0, by omega, rfl⟩, rfl⟩
                case round =>
                  obtain ⟨⟨j, hj, rfl⟩, hw12⟩ := hrel
                  subst hw12
                  by_cases hj8 : j < 8
                  · have c1 := HGA.out j hj8
                    have c2 := HGB.out j hj8
                    obtain ⟨sv, hsv⟩ : ∃ v, sb[j]? = some v := ⟨_, List.getElem?_eq_getElem (by rw [HI.out.eights]; exact hj8)⟩
                    have c3 : wr.cell? ⟨gc, j, none⟩ = some (.bool sv) := (HGC.out.cell j).trans (by unfold bcells; rw [List.getElem?_map, hsv]; rfl)
                    go_wp2_with fail
                    refine (di_reads B4.out j _ (R1.out j hj8).1 (R1.out j hj8).2).mono ?_
                    rintro e w13 ⟨rfl, hw13⟩
                    subst hw13
                    go_wp2_with fail
                    refine (di_reads B5.out j _ (R2.out j hj8).1 (R2.out j hj8).2).mono ?_
                    rintro e w13 ⟨rfl, hw13⟩
                    subst hw13
                    cases sv with
                    | true =>
                      go_wp2
                      go_roundw
                      case rel => exact ⟨⟨j + 1, by omega, by go_num⟩, trivial⟩
                      case measure => simp [RowKit.intOf]; omega
                    | false =>
                      have hq := Lib.hid (Q3.out j (HI.out.since j hsv))
                      go_wp2_with fail
                      refine (di_reads B3.out j _ (R3.out j hj8).1 ((R3.out j hj8).2.trans hq.out)).mono ?_
                      rintro e w13 ⟨rfl, hw13⟩
                      subst hw13
                      go_wp2
                      go_roundw
                      case rel => exact ⟨⟨j + 1, by omega, by go_num⟩, trivial⟩
                      case measure => simp [RowKit.intOf]; omega
                  · have hdj : decide ((j : Int) < 8) = false := by simp; omega
                    clear HGA HGB HGC B4 B5 R1 R2
                    go_wp2_with fail
                    refine (di_off B3.out).mono ?_
                    rintro e w13 ⟨rfl, d1⟩
                    clear B3
                    go_wp2_with fail
                    refine (di_copy d1).mono ?_
                    rintro e w14 ⟨g4, rfl, d2⟩
                    replace d2 := d2.swap
                    clear d1
                    go_wp2_with fail
                    have ho14 := all_has (g := go5) (t := 5) (cs := byteCells (List.replicate 40 1)) d2 (by simp)
                    refine (di_wake_in d2 (List.replicate 40 1) (by simp) (by simp [maxLen]) go5 40 40 (by simp) (by simp) _ rfl ho14).mono ?_
                    rintro e w15 ⟨rfl, d3⟩
                    rw [wake_again F3 true 0 0] at d3
                    replace d3 := d3.swap
                    clear d2 ho14
                    go_wp2_with fail
                    refine (di_wake_nil d3).mono ?_
                    rintro e w16 ⟨rfl, d4⟩
                    rw [wake_again F3 true 0 0] at d4
                    clear d3
                    have d5 := d4.swap
                    have D4 := Lib.hid d4
                    have D5 := Lib.hid d5
                    clear d4 d5
                    go_wp2
                    go_loopw [19] (fun x wr => (∃ j : Nat, j ≤ 8 ∧ x = .int .i64 j) ∧ wr = w16) (fun x _ => 8 - (RowKit.intOf x).toNat)
                    case atStart => exact ⟨⟨0, by omega, rfl⟩, rfl⟩
                    case round =>
                      obtain ⟨⟨i, hi, rfl⟩, hw16⟩ := hrel
                      subst hw16
                      by_cases hi8 : i < 8
                      · have r1 := (R3.out i hi8).1
                        have r2 := (R3.out i hi8).2
                        have RD := Lib.hid r1
                        have RE := Lib.hid r2
                        clear r1 r2
                        go_wp2_with fail
                        refine (di_read D4.out i).mono ?_
                        rintro e w17 ⟨rfl, hw17⟩
                        subst hw17
                        rw [RD.out, RE.out]
                        go_wp2_with fail
                        refine (di_reads D5.out i _ RD.out RE.out).mono ?_
                        rintro e w17 ⟨rfl, hw17⟩
                        subst hw17
                        go_wp2
                        go_roundw
                        case rel => exact ⟨⟨i + 1, by omega, by go_num⟩, trivial⟩
                        case measure => simp [RowKit.intOf]; omega
                      · have hdi : decide ((i : Int) < 8) = false := by simp; omega
                        go_wp2_with fail
                        refine (works_walk _).mono ?_
                        rintro e w17 ⟨rfl, b17⟩
                        have hB := D4.out.under.trans (b17.mono D4.out.under.size)
                        go_wp2
                        go_ret
                        exact ⟨rfl, hB⟩

set_option maxRecDepth 100000 in
theorem lifted (os : Os) (started : os.Started) (H : Type) (enc : TypeId × Value → H) :
    ReturnsInHanded {} Try.checked os 8 .any (Rows.diskWholeSpec.pre6 enc Try.prog Try.f8 Rows.diskWholeRow.domain false) (Rows.diskWholeSpec.post enc Try.prog Try.f8 false true false false) := by
  refine returnsInHanded_of_change (C := Try.checked) own started (by kernel_rfl) Try.func8
    (ChangeSpec.witness6 (enc := enc) (C := Try.checked) false ⟨#[], #[.slice none 0 0, .slice none 0 0], []⟩ 8 (by kernel_rfl) (by kernel_rfl) (by kernel_rfl) (by kernel_rfl)) ?_
  intro W base args ds gs before hval0 hW hcnd _
  have hval : ∀ (j : Nat) t v, Try.f8.params[j]? = some t → args[j]? = some v → Value.okWide Try.prog W .any base t v := hval0
  have hW' := hW
  obtain ⟨p, q, hA0, hV, rfl, hfz, hnd⟩ := hW
  have hA : DataW.TrodAll enc Try.prog W 0 (fun _ => true) true Try.f8.params.toList args.toList ds p := hA0
  rw [Try.params8] at hA hval
  obtain ⟨v0, vs0, d0, ds0, p0, q0, hargs, rfl, rfl, h0, r0⟩ := trodAll_cons hA
  obtain ⟨v1, vs1, d1, ds1, p1, q1, rfl, rfl, rfl, h1, r1⟩ := trodAll_cons r0
  obtain ⟨rfl, rfl, rfl⟩ := trodAll_nil r1
  obtain rfl : args = #[v0, v1] := by cases args; simp_all
  obtain ⟨rfl, rfl⟩ := trodVars_none hV
  obtain ⟨A, cap0, l, rfl, hrd, hlc, hcm⟩ := open_puts (hval 0 41 v0 rfl rfl) h0
  obtain ⟨l1, hs1, hl1⟩ := open_bytes (hval 1 30 v1 rfl rfl) h1
  clear hA0 hval0
  have hc := walk A cap0 l v1 l1 W hrd (by omega) hs1 (by unfold maxLen at hl1; omega)
  try rw [Array.toArray_toList] at hc
  refine hc.mono fun e W' ⟨he, hg⟩ => ?_
  subst he
  exact ⟨_, rfl, law_post rfl (by decide +kernel) (by kernel_rfl) rfl hW' hg⟩

theorem over : Rows.diskWholeRow.holds Try.pinned (OpenSpec.ofChange Rows.diskWholeSpec) :=
  OpenClaim.holds_of_wide 8 Try.f8 rfl rfl rfl rfl rfl rfl rfl ⟨rfl, rfl, rfl, rfl, rfl⟩ rfl rfl rfl rfl rfl (by kernel_rfl) Try.func8 (by kernel_rfl)
    (of_decide_eq_true (by kernel_rfl)) (by unfold Func.isWrapper; first | (rw [if_pos (by decide +kernel)]; kernel_rfl) | (rw [if_neg (by decide +kernel)]; exact ⟨rfl, rfl⟩))
    (fun os started H enc _ => lifted os started H enc)

theorem proved : Rows.DiskWholeSaid :=
  over
#print axioms proved
end DiskWhole
end Go.Proofs.Ytdbnfkchmndaiaa
