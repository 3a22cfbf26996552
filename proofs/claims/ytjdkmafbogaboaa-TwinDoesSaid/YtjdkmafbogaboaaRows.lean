/-
  No cell of these rows narrows 'for every input' (looked for: loops, veiled, ifaces, maps, wideKeys, modest, calm, conditions, laid).
  DERIVED. THE GIVEN ROWS OF THIS SEAT. 4 by the template 'for every input the law returns true; each argument reads behind the call as it read before'; 0 by the template 'total and deterministic' (their statements: YtjdkmafbogaboaaTotals.lean).
  GIVEN WITH THE SEED: the statements are not yours to turn. If you find one false, say at which input.
  Laid BY PROGRAM, IN A SANDBOX (cutbox-rows.mjs): the forced cells as the released guide's own fill.sh prints them over the translation 8001f955c281ff59… (all of the seat's roots in one cut). By AI agents, Wed Nov 11 2026. No macro, syntax, notation, axiom, sorry.
-/
import Derived.Test.YtjdkmafbogaboaaChecked
import GoSem.Claim
import GoSem.ClaimJoined
import GoSem.ClaimMapViews
import Derived.JoinedTies
import Derived.KernelRfl
namespace Go.Proofs.Ytjdkmafbogaboaa
/- THE CELL 'sum', in the pinned program and in every row, IS THE sha256 OF THE DUMP (.gsa) THAT YtjdkmafbogaboaaProg.lean LOADS. Nothing in Lean hashes anything: it is a label: what it is worth is what the hold of that sum in a sandbox is worth. -/
noncomputable def Try.pinned : Pinned := { name := "ytjdkmafbogaboaa", sum := "8001f955c281ff59be22eb8a7042e4c0ee601537088498b7e36bd990c6e28fdd", checked := Try.checked }
namespace Rows
def none {H : Type} : Left H := { results := [], args := [] }

/-- 'coupletlaw04.TwinDoes': WHATEVER THE INPUT: true; the input reads as it did. -/
def twinDoesSpec : ChangeSpec := { name := "twinDoes", fn := fun _ => fun
  | [d1, d2] => { results := [.lit (.bool true)], args := [d1, d2] }
  | _ => none }
def twinDoesRow : OpenClaim := { program := "ytjdkmafbogaboaa", sum := "8001f955c281ff59be22eb8a7042e4c0ee601537088498b7e36bd990c6e28fdd", func := "couplet/coupletlaw04.TwinDoes", spec := "twinDoes", unfollowed := true, recurses := true, apart := false }
def TwinDoesSaid : Prop := twinDoesRow.holds Try.pinned (OpenSpec.ofChange twinDoesSpec)

/-- ITS FALSE NEIGHBOUR: 'it returns false'. Refute it at one input. -/
def twinDoesWrong : ChangeSpec := { name := "twinDoes", fn := fun _ => fun
  | [d1, d2] => { results := [.lit (.bool false)], args := [d1, d2] }
  | _ => none }
def TwinDoesWrongFalsely : Prop := twinDoesRow.holds Try.pinned (OpenSpec.ofChange twinDoesWrong)

/-- 'coupletlaw04.TwinKeeps': WHATEVER THE INPUT: true; the input reads as it did. -/
def twinKeepsSpec : ChangeSpec := { name := "twinKeeps", fn := fun _ => fun
  | [d] => { results := [.lit (.bool true)], args := [d] }
  | _ => none }
def twinKeepsRow : OpenClaim := { program := "ytjdkmafbogaboaa", sum := "8001f955c281ff59be22eb8a7042e4c0ee601537088498b7e36bd990c6e28fdd", func := "couplet/coupletlaw04.TwinKeeps", spec := "twinKeeps", unfollowed := true, recurses := true, apart := false }
def TwinKeepsSaid : Prop := twinKeepsRow.holds Try.pinned (OpenSpec.ofChange twinKeepsSpec)

/-- ITS FALSE NEIGHBOUR: 'it returns false'. Refute it at one input. -/
def twinKeepsWrong : ChangeSpec := { name := "twinKeeps", fn := fun _ => fun
  | [d] => { results := [.lit (.bool false)], args := [d] }
  | _ => none }
def TwinKeepsWrongFalsely : Prop := twinKeepsRow.holds Try.pinned (OpenSpec.ofChange twinKeepsWrong)

/-- 'coupletlaw04.TwinTorn': WHATEVER THE INPUT: true; the input reads as it did. -/
def twinTornSpec : ChangeSpec := { name := "twinTorn", fn := fun _ => fun
  | [d1, d2, d3] => { results := [.lit (.bool true)], args := [d1, d2, d3] }
  | _ => none }
def twinTornRow : OpenClaim := { program := "ytjdkmafbogaboaa", sum := "8001f955c281ff59be22eb8a7042e4c0ee601537088498b7e36bd990c6e28fdd", func := "couplet/coupletlaw04.TwinTorn", spec := "twinTorn", unfollowed := true, recurses := true, apart := false }
def TwinTornSaid : Prop := twinTornRow.holds Try.pinned (OpenSpec.ofChange twinTornSpec)

/-- ITS FALSE NEIGHBOUR: 'it returns false'. Refute it at one input. -/
def twinTornWrong : ChangeSpec := { name := "twinTorn", fn := fun _ => fun
  | [d1, d2, d3] => { results := [.lit (.bool false)], args := [d1, d2, d3] }
  | _ => none }
def TwinTornWrongFalsely : Prop := twinTornRow.holds Try.pinned (OpenSpec.ofChange twinTornWrong)

/-- 'coupletlaw04.TwinKnown': WHATEVER THE INPUT: true; the input reads as it did. -/
def twinKnownSpec : ChangeSpec := { name := "twinKnown", fn := fun _ => fun
  | [] => { results := [.lit (.bool true)], args := [] }
  | _ => none }
def twinKnownRow : OpenClaim := { program := "ytjdkmafbogaboaa", sum := "8001f955c281ff59be22eb8a7042e4c0ee601537088498b7e36bd990c6e28fdd", func := "couplet/coupletlaw04.TwinKnown", spec := "twinKnown", unfollowed := true, recurses := true, apart := false }
def TwinKnownSaid : Prop := twinKnownRow.holds Try.pinned (OpenSpec.ofChange twinKnownSpec)

/-- ITS FALSE NEIGHBOUR: 'it returns false'. Refute it at one input. -/
def twinKnownWrong : ChangeSpec := { name := "twinKnown", fn := fun _ => fun
  | [] => { results := [.lit (.bool false)], args := [] }
  | _ => none }
def TwinKnownWrongFalsely : Prop := twinKnownRow.holds Try.pinned (OpenSpec.ofChange twinKnownWrong)

/- THE SECOND FORM. 'bulk': how many values and letters a reading holds, each counted each time it is reached (what is shared counts as often as it is met; a slice's spare places count too). A statement '..UptoSaid' is the law's where the arguments, and the package variables that the reading takes, are together of bulk at most 1048576: NARROWER than '..Said'. Prove '..Said' where nothing that the law and all that it calls make is longer than what came in: it says more and counts as full. Else prove '..UptoSaid'. A law counts once. -/
mutual
def uptoBulk {H : Type} : DataW H → Nat
  | .lit (.string bytes) => bytes.length + 1
  | .lit _ => 1
  | .nil => 1
  | .ptr d => uptoBulk d + 1
  | .slice elems spare => uptoBulkAll elems + uptoBulkAll spare + 1
  | .agg parts => uptoBulkAll parts + 1
  | .iface _ d => uptoBulk d + 1
  | .map entries => uptoBulkEntries entries + 1
  | .held _ => 1
def uptoBulkAll {H : Type} : List (DataW H) → Nat
  | [] => 0
  | d :: r => uptoBulk d + uptoBulkAll r
def uptoBulkEntries {H : Type} : List (Lit × DataW H) → Nat
  | [] => 0
  | x :: r => uptoBulkEntry x + uptoBulkEntries r
def uptoBulkEntry {H : Type} : Lit × DataW H → Nat
  | (.string bytes, d) => bytes.length + uptoBulk d + 1
  | (_, d) => uptoBulk d + 1
 end
def uptoSmall : (H : Type) → List (DataW H) → Bool := fun _ ds => decide (uptoBulkAll ds ≤ 1048576)
def OpenSpec.upto (s : _root_.Go.ChangeSpec) : _root_.Go.OpenSpec := { _root_.Go.OpenSpec.ofChange s with cond := some uptoSmall }

/-- 'coupletlaw04.TwinDoes', WHERE WHAT IT READS IS OF BULK AT MOST 1048576: true; the input reads as it did. -/
def twinDoesUptoRow : OpenClaim := { program := "ytjdkmafbogaboaa", sum := "8001f955c281ff59be22eb8a7042e4c0ee601537088498b7e36bd990c6e28fdd", func := "couplet/coupletlaw04.TwinDoes", spec := "twinDoes", unfollowed := true, recurses := true, apart := false, narrowed := true }
def TwinDoesUptoSaid : Prop := twinDoesUptoRow.holds Try.pinned (OpenSpec.upto twinDoesSpec)

/-- 'coupletlaw04.TwinKeeps', WHERE WHAT IT READS IS OF BULK AT MOST 1048576: true; the input reads as it did. -/
def twinKeepsUptoRow : OpenClaim := { program := "ytjdkmafbogaboaa", sum := "8001f955c281ff59be22eb8a7042e4c0ee601537088498b7e36bd990c6e28fdd", func := "couplet/coupletlaw04.TwinKeeps", spec := "twinKeeps", unfollowed := true, recurses := true, apart := false, narrowed := true }
def TwinKeepsUptoSaid : Prop := twinKeepsUptoRow.holds Try.pinned (OpenSpec.upto twinKeepsSpec)

/-- 'coupletlaw04.TwinTorn', WHERE WHAT IT READS IS OF BULK AT MOST 1048576: true; the input reads as it did. -/
def twinTornUptoRow : OpenClaim := { program := "ytjdkmafbogaboaa", sum := "8001f955c281ff59be22eb8a7042e4c0ee601537088498b7e36bd990c6e28fdd", func := "couplet/coupletlaw04.TwinTorn", spec := "twinTorn", unfollowed := true, recurses := true, apart := false, narrowed := true }
def TwinTornUptoSaid : Prop := twinTornUptoRow.holds Try.pinned (OpenSpec.upto twinTornSpec)

/-- 'coupletlaw04.TwinKnown', WHERE WHAT IT READS IS OF BULK AT MOST 1048576: true; the input reads as it did. -/
def twinKnownUptoRow : OpenClaim := { program := "ytjdkmafbogaboaa", sum := "8001f955c281ff59be22eb8a7042e4c0ee601537088498b7e36bd990c6e28fdd", func := "couplet/coupletlaw04.TwinKnown", spec := "twinKnown", unfollowed := true, recurses := true, apart := false, narrowed := true }
def TwinKnownUptoSaid : Prop := twinKnownUptoRow.holds Try.pinned (OpenSpec.upto twinKnownSpec)

end Rows
end Go.Proofs.Ytjdkmafbogaboaa
