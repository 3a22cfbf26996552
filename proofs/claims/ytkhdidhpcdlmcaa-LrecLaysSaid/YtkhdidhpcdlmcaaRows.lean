/-
  No cell of these rows narrows 'for every input' (looked for: loops, veiled, ifaces, maps, wideKeys, modest, calm, conditions, laid).
  DERIVED. THE GIVEN ROWS OF THIS SEAT. 4 by the template 'for every input the law returns true; each argument reads behind the call as it read before'; 0 by the template 'total and deterministic' (their statements: YtkhdidhpcdlmcaaTotals.lean).
  GIVEN WITH THE SEED: the statements are not yours to turn. If you find one false, say at which input.
  Laid BY PROGRAM, IN A SANDBOX (cutbox-rows.mjs): the forced cells as the released guide's own fill.sh prints them over the translation f4cbeb1e1ac00251… (all of the seat's roots in one cut). By AI agents, Wed Nov 11 2026. No macro, syntax, notation, axiom, sorry.
-/
import Derived.Test.YtkhdidhpcdlmcaaChecked
import GoSem.Claim
import GoSem.ClaimJoined
import GoSem.ClaimMapViews
import Derived.JoinedTies
import Derived.KernelRfl
namespace Go.Proofs.Ytkhdidhpcdlmcaa
/- THE CELL 'sum', in the pinned program and in every row, IS THE sha256 OF THE DUMP (.gsa) THAT YtkhdidhpcdlmcaaProg.lean LOADS. Nothing in Lean hashes anything: it is a label: what it is worth is what the hold of that sum in a sandbox is worth. -/
noncomputable def Try.pinned : Pinned := { name := "ytkhdidhpcdlmcaa", sum := "f4cbeb1e1ac002517cad276d722e8c386d3eb80d2de384e0a42fb5ac156f6056", checked := Try.checked }
namespace Rows
def none {H : Type} : Left H := { results := [], args := [] }

/-- 'coupletlaw05.TapeKeeps': WHATEVER THE INPUT: true; the input reads as it did. -/
def tapeKeepsSpec : ChangeSpec := { name := "tapeKeeps", fn := fun _ => fun
  | [d1, d2, d3] => { results := [.lit (.bool true)], args := [d1, d2, d3] }
  | _ => none }
def tapeKeepsRow : OpenClaim := { program := "ytkhdidhpcdlmcaa", sum := "f4cbeb1e1ac002517cad276d722e8c386d3eb80d2de384e0a42fb5ac156f6056", func := "couplet/coupletlaw05.TapeKeeps", spec := "tapeKeeps", inPlace := ["internal/abi.NoEscape"], unfollowed := true, recurses := true, apart := false }
def TapeKeepsSaid : Prop := tapeKeepsRow.holds Try.pinned (OpenSpec.ofChange tapeKeepsSpec)

/-- ITS FALSE NEIGHBOUR: 'it returns false'. Refute it at one input. -/
def tapeKeepsWrong : ChangeSpec := { name := "tapeKeeps", fn := fun _ => fun
  | [d1, d2, d3] => { results := [.lit (.bool false)], args := [d1, d2, d3] }
  | _ => none }
def TapeKeepsWrongFalsely : Prop := tapeKeepsRow.holds Try.pinned (OpenSpec.ofChange tapeKeepsWrong)

/-- 'coupletlaw05.TapeRow': WHATEVER THE INPUT: true; the input reads as it did. -/
def tapeRowSpec : ChangeSpec := { name := "tapeRow", fn := fun _ => fun
  | [d1, d2] => { results := [.lit (.bool true)], args := [d1, d2] }
  | _ => none }
def tapeRowRow : OpenClaim := { program := "ytkhdidhpcdlmcaa", sum := "f4cbeb1e1ac002517cad276d722e8c386d3eb80d2de384e0a42fb5ac156f6056", func := "couplet/coupletlaw05.TapeRow", spec := "tapeRow", inPlace := ["internal/abi.NoEscape"], unfollowed := true, recurses := true, apart := false }
def TapeRowSaid : Prop := tapeRowRow.holds Try.pinned (OpenSpec.ofChange tapeRowSpec)

/-- ITS FALSE NEIGHBOUR: 'it returns false'. Refute it at one input. -/
def tapeRowWrong : ChangeSpec := { name := "tapeRow", fn := fun _ => fun
  | [d1, d2] => { results := [.lit (.bool false)], args := [d1, d2] }
  | _ => none }
def TapeRowWrongFalsely : Prop := tapeRowRow.holds Try.pinned (OpenSpec.ofChange tapeRowWrong)

/-- 'coupletlaw05.TapeKnown': WHATEVER THE INPUT: true; the input reads as it did. -/
def tapeKnownSpec : ChangeSpec := { name := "tapeKnown", fn := fun _ => fun
  | [] => { results := [.lit (.bool true)], args := [] }
  | _ => none }
def tapeKnownRow : OpenClaim := { program := "ytkhdidhpcdlmcaa", sum := "f4cbeb1e1ac002517cad276d722e8c386d3eb80d2de384e0a42fb5ac156f6056", func := "couplet/coupletlaw05.TapeKnown", spec := "tapeKnown", inPlace := ["internal/abi.NoEscape"], unfollowed := true, recurses := true, apart := false }
def TapeKnownSaid : Prop := tapeKnownRow.holds Try.pinned (OpenSpec.ofChange tapeKnownSpec)

/-- ITS FALSE NEIGHBOUR: 'it returns false'. Refute it at one input. -/
def tapeKnownWrong : ChangeSpec := { name := "tapeKnown", fn := fun _ => fun
  | [] => { results := [.lit (.bool false)], args := [] }
  | _ => none }
def TapeKnownWrongFalsely : Prop := tapeKnownRow.holds Try.pinned (OpenSpec.ofChange tapeKnownWrong)

/-- 'coupletlaw06.LrecLays': WHATEVER THE INPUT: true; the input reads as it did. -/
def lrecLaysSpec : ChangeSpec := { name := "lrecLays", fn := fun _ => fun
  | [d1, d2] => { results := [.lit (.bool true)], args := [d1, d2] }
  | _ => none }
def lrecLaysRow : OpenClaim := { program := "ytkhdidhpcdlmcaa", sum := "f4cbeb1e1ac002517cad276d722e8c386d3eb80d2de384e0a42fb5ac156f6056", func := "couplet/coupletlaw06.LrecLays", spec := "lrecLays", unfollowed := true, recurses := true, apart := false }
def LrecLaysSaid : Prop := lrecLaysRow.holds Try.pinned (OpenSpec.ofChange lrecLaysSpec)

/-- ITS FALSE NEIGHBOUR: 'it returns false'. Refute it at one input. -/
def lrecLaysWrong : ChangeSpec := { name := "lrecLays", fn := fun _ => fun
  | [d1, d2] => { results := [.lit (.bool false)], args := [d1, d2] }
  | _ => none }
def LrecLaysWrongFalsely : Prop := lrecLaysRow.holds Try.pinned (OpenSpec.ofChange lrecLaysWrong)

/- THE SECOND FORM. 'bulk': how many values and letters a reading holds, each counted each time it is reached (what is shared counts as often as it is met; a slice's spare places count too). A statement '..UptoSaid' is the law's where the arguments, and the package variables that the reading takes, are together of bulk at most 1048576: NARROWER than '..Said'. Prove '..Said' where nothing that the law and all that it calls make is longer than what came in: it says more and counts as full. Else prove '..UptoSaid'. A law counts once. -/
mutual
def uptoBulk {H : Type} : DataW H → Nat
  | .lit (.string bytes) => bytes.length + 1
  | .lit _ => 1
  | .nil => 1
  | .ptr d => uptoBulk d + 1
  | .slice elems spare => uptoBulkAll elems + uptoBulkAll spare + 1
  | .agg parts => uptoBulkAll parts + 1
  | .iface _ d => uptoBulk d + 1
  | .map entries => uptoBulkEntries entries + 1
  | .held _ => 1
def uptoBulkAll {H : Type} : List (DataW H) → Nat
  | [] => 0
  | d :: r => uptoBulk d + uptoBulkAll r
def uptoBulkEntries {H : Type} : List (Lit × DataW H) → Nat
  | [] => 0
  | x :: r => uptoBulkEntry x + uptoBulkEntries r
def uptoBulkEntry {H : Type} : Lit × DataW H → Nat
  | (.string bytes, d) => bytes.length + uptoBulk d + 1
  | (_, d) => uptoBulk d + 1
 end
def uptoSmall : (H : Type) → List (DataW H) → Bool := fun _ ds => decide (uptoBulkAll ds ≤ 1048576)
def OpenSpec.upto (s : _root_.Go.ChangeSpec) : _root_.Go.OpenSpec := { _root_.Go.OpenSpec.ofChange s with cond := some uptoSmall }

/-- 'coupletlaw05.TapeKeeps', WHERE WHAT IT READS IS OF BULK AT MOST 1048576: true; the input reads as it did. -/
def tapeKeepsUptoRow : OpenClaim := { program := "ytkhdidhpcdlmcaa", sum := "f4cbeb1e1ac002517cad276d722e8c386d3eb80d2de384e0a42fb5ac156f6056", func := "couplet/coupletlaw05.TapeKeeps", spec := "tapeKeeps", inPlace := ["internal/abi.NoEscape"], unfollowed := true, recurses := true, apart := false, narrowed := true }
def TapeKeepsUptoSaid : Prop := tapeKeepsUptoRow.holds Try.pinned (OpenSpec.upto tapeKeepsSpec)

/-- 'coupletlaw05.TapeRow', WHERE WHAT IT READS IS OF BULK AT MOST 1048576: true; the input reads as it did. -/
def tapeRowUptoRow : OpenClaim := { program := "ytkhdidhpcdlmcaa", sum := "f4cbeb1e1ac002517cad276d722e8c386d3eb80d2de384e0a42fb5ac156f6056", func := "couplet/coupletlaw05.TapeRow", spec := "tapeRow", inPlace := ["internal/abi.NoEscape"], unfollowed := true, recurses := true, apart := false, narrowed := true }
def TapeRowUptoSaid : Prop := tapeRowUptoRow.holds Try.pinned (OpenSpec.upto tapeRowSpec)

/-- 'coupletlaw05.TapeKnown', WHERE WHAT IT READS IS OF BULK AT MOST 1048576: true; the input reads as it did. -/
def tapeKnownUptoRow : OpenClaim := { program := "ytkhdidhpcdlmcaa", sum := "f4cbeb1e1ac002517cad276d722e8c386d3eb80d2de384e0a42fb5ac156f6056", func := "couplet/coupletlaw05.TapeKnown", spec := "tapeKnown", inPlace := ["internal/abi.NoEscape"], unfollowed := true, recurses := true, apart := false, narrowed := true }
def TapeKnownUptoSaid : Prop := tapeKnownUptoRow.holds Try.pinned (OpenSpec.upto tapeKnownSpec)

/-- 'coupletlaw06.LrecLays', WHERE WHAT IT READS IS OF BULK AT MOST 1048576: true; the input reads as it did. -/
def lrecLaysUptoRow : OpenClaim := { program := "ytkhdidhpcdlmcaa", sum := "f4cbeb1e1ac002517cad276d722e8c386d3eb80d2de384e0a42fb5ac156f6056", func := "couplet/coupletlaw06.LrecLays", spec := "lrecLays", unfollowed := true, recurses := true, apart := false, narrowed := true }
def LrecLaysUptoSaid : Prop := lrecLaysUptoRow.holds Try.pinned (OpenSpec.upto lrecLaysSpec)

end Rows
end Go.Proofs.Ytkhdidhpcdlmcaa
