/- The walk over 'ask': a reader that has an item's bytes ahead answers it. -/
import Derived.Test.YtdpkgmcjofddnaaWireItems
import Derived.Deep.RegionWith
namespace Go.Proofs.Ytdpkgmcjofddnaa
open Go.RowKit Go.Lib WM WW WP WR WL WI
namespace WA
theorem undraw {a b : World} {row : Option Nat} (h : a.drew.grownBy b row) : a.grownBy b row := ⟨h.os, h.tape, h.output, h.size, h.block⟩
/-- What 'ask' leaves: the answer is yes, the reader has the rest left. -/
def Asked (w : World) (g : Nat) (rest : List UInt8) (e : Ending) (w' : World) : Prop := e = .returned (.bool true) ∧ Rd w' g rest false ∧ w.grownBy w' (some g)

theorem only_alloc (w : World) (o : Obj) (row : Option Nat) : w.grownBy (w.alloc o) row := only_of_under ((Below.refl _ _).alloc (Nat.le_refl _) _) _

theorem box_has (w : World) (b : Bool) (s : List UInt8) (n : Nat) : Has (w.alloc (.cells #[.bool b, .string ⟨s.toArray⟩, .int .u64 n] 25)) w.heap.size 25 [.bool b, .string ⟨s.toArray⟩, .int .u64 n] := heap_alloc_new _ _

set_option maxRecDepth 100000 in
set_option maxHeartbeats 2000000 in
theorem ask_text (s : List UInt8) (n : Nat) (hs : s.length ≤ 9223372036854775807) (rest : List UInt8) (hrest : rest.length ≤ 1073741824) (g : Nat) (w : World) (h : Rd w g (textB (s.take 200) ++ rest) false) :
    Calls Try.prog 24 #[.pointer (some ⟨g, 0, none⟩), .agg #[.bool true, .string ⟨s.toArray⟩, .int .u64 n]] w (Asked w g rest) := by
  have hl : (s.take 200).length ≤ 200 := by rw [List.length_take]; omega
  have htb : (textB (s.take 200)).length ≤ 210 := by
    have := numB_le (s.take 200).length
    rw [textB, List.length_append]; omega
  have htext := fun W (hW : Rd W g (textB (s.take 200) ++ rest) false) => WR.text_walk (textB (s.take 200) ++ rest) false (by rw [List.length_append]; omega) g W hW
  rw [textS_put (s.take 200) rest (by omega)] at htext
  have HT := Lib.hid htext
  clear htext
  have hitem := fun W => WI.text_walk ⟨true, s, n⟩ hs W
  dsimp only [Itm.text] at hitem
  have HI := Lib.hid hitem
  clear hitem
  have hg := h.lt
  generalize s.take 200 = t at *
  go_enter Try.func24, Try.ntmps24
  go_wp2
  go_region_with (first
    | (go_at_call 15; refine (HT.out _ ?_).mono ?_; exact (h.grow _).draw; rintro e w1 ⟨rfl, h1, g1⟩; have hx1 := Has.but (Has.draw (box_has w true s n)) g1 (by intro hh; injection hh with hh; omega); have c0 := hx1.cell 0; have c1 := hx1.cell 1; have c2 := hx1.cell 2; simp only [List.getElem?_cons_succ, List.getElem?_cons_zero] at c0 c1 c2)
    | (go_at_call 11; refine (HI.out _).mono ?_; rintro e w2 ⟨rfl, b2⟩))
  all_goals
    go_wp2
    go_ret
    exact ⟨rfl, Has.under h1 b2 h1.lt, only_step (only_step (only_alloc w _ _) (undraw g1)) (only_of_under b2 _)⟩

set_option maxRecDepth 100000 in
set_option maxHeartbeats 2000000 in
theorem ask_num (s : List UInt8) (n : Nat) (hn : U64 n) (rest : List UInt8) (hrest : rest.length ≤ 1073741824) (g : Nat) (w : World) (h : Rd w g (numB n ++ rest) false) :
    Calls Try.prog 24 #[.pointer (some ⟨g, 0, none⟩), .agg #[.bool false, .string ⟨s.toArray⟩, .int .u64 n]] w (Asked w g rest) := by
  have htb := numB_le n
  have hnum := fun W (hW : Rd W g (numB n ++ rest) false) => WR.num_walk (numB n ++ rest) false (by rw [List.length_append]; omega) g W hW
  rw [numS_put n rest hn.lt] at hnum
  have HT := Lib.hid hnum
  clear hnum
  have hg := h.lt
  go_enter Try.func24, Try.ntmps24
  go_wp2
  go_region_with (go_at_call 17; refine (HT.out _ ?_).mono ?_; exact (h.grow _).draw; rintro e w1 ⟨rfl, h1, g1⟩; have hx1 := Has.but (Has.draw (box_has w false s n)) g1 (by intro hh; injection hh with hh; omega); have c0 := hx1.cell 0; have c1 := hx1.cell 1; have c2 := hx1.cell 2; simp only [List.getElem?_cons_succ, List.getElem?_cons_zero] at c0 c1 c2)
  all_goals
    go_wp2
    go_ret
    exact ⟨rfl, h1, only_step (only_alloc w _ _) (undraw g1)⟩
end WA
end Go.Proofs.Ytdpkgmcjofddnaa
