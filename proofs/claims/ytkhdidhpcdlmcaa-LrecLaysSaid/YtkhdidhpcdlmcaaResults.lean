/- Results that lie in variables: structs; and what a call writes into its own new blocks. -/
import Derived.Test.YtkhdidhpcdlmcaaMem
import Derived.Laws.ResultCell
import Derived.Deep.MidRow
namespace Go.Proofs.Ytkhdidhpcdlmcaa
open Go.RowKit Go.Lib MM
namespace RS
section
variable {P : Program} {fn : Func} {ty : TypeId}
theorem results_cell {p : Tmp} (h : fn.results = #[.cell p ty]) (tmps : Array Value) (w : World) (g o : Nat) (cs : List Value) (d : TypeDesc) (hp : tmps.getD p undef = .pointer (some ⟨g, o, none⟩)) (hc : w.rangeAt g o cs) (hu : P.underlying ty = some d) (hd : d.isRow = true) (hi : (P.info? ty).map (·.size) = some cs.length) :
    (results fn tmps).run P w = .ok (.agg cs.toArray) w := by
  have e : ((asAddr (tmps.getD p undef)).run P w).andThen (fun a w1 => (loadVar ty a).run P w1) = .ok (.agg cs.toArray) w := by
    rw [hp]
    simp only [asAddr, Sem.run_pure, Result.andThen_ok, run_loadVar_mid w g o ty cs d hc hu hd hi]
  simp only [results, h]
  simp [Sem.run_bind]
  rw [Array.getD_eq_getD_getElem?] at e
  exact e
/-- Three results: a struct, and two of one cell each. -/
theorem results_three {p q u : Tmp} {tq tu : TypeId} (h : fn.results = #[.cell p ty, .cell q tq, .cell u tu]) (tmps : Array Value) (w : World) (g o : Nat) (aq au : Addr) (vq vu : Value) (cs : List Value) (d : TypeDesc) (hp : tmps.getD p undef = .pointer (some ⟨g, o, none⟩)) (hc : w.rangeAt g o cs)
    (hq : tmps.getD q undef = .pointer (some aq)) (hu' : tmps.getD u undef = .pointer (some au)) (lq : (loadVar tq aq).run P w = .ok vq w) (lu : (loadVar tu au).run P w = .ok vu w)
    (hu : P.underlying ty = some d) (hd : d.isRow = true) (hi : (P.info? ty).map (·.size) = some cs.length) :
    (results fn tmps).run P w = .ok (.tuple #[.agg cs.toArray, vq, vu]) w := by
  have e : (results fn tmps).run P w = ((asAddr (tmps.getD p undef)).run P w).andThen fun a w1 => ((loadVar ty a).run P w1).andThen fun v w2 => ((asAddr (tmps.getD q undef)).run P w2).andThen fun b w3 => ((loadVar tq b).run P w3).andThen fun v' w4 => ((asAddr (tmps.getD u undef)).run P w4).andThen fun c w5 => ((loadVar tu c).run P w5).andThen fun v'' w6 => .ok (.tuple #[v, v', v'']) w6 := by
    simp only [results, h]
    simp [Sem.run_bind, Result.andThen]
  rw [e, hp, hq, hu']
  simp only [asAddr, Sem.run_pure, Result.andThen_ok, run_loadVar_mid w g o ty cs d hc hu hd hi, lq, lu]
end
theorem has_range {w : World} {g : Nat} {t : TypeId} {cs : List Value} (h : Has w g t cs) : w.rangeAt g 0 cs := fun j v hj => by rw [Nat.zero_add, h.cell j]; exact hj
theorem grow_new {w w3 : World} {row : Option Nat} (h : w.grownBy w3 row) (p : Addr) (hp : w.heap.size ≤ p.block) (u : Value) : w.grownBy (w3.setCell p u) row :=
  ⟨h.os, h.tape, h.output, by simpa [World.setCell] using h.size, fun i hi hn => (Below.heap_setCell w3 p u i (by omega)).trans (h.block i hi hn)⟩
end RS
end Go.Proofs.Ytkhdidhpcdlmcaa
