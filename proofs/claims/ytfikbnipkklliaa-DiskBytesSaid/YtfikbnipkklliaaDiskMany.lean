/- The statements' reads on a disk that lies among other things. -/
import Derived.Test.YtfikbnipkklliaaDiskWorks
import Derived.Test.YtfikbnipkklliaaDiskHave
namespace Go.Proofs.Ytfikbnipkklliaa
open Go.RowKit Go.Lib MM MF DM DK DN FL DW DF DU MS DC DL MY
namespace DP
section
variable {w0 w w' : World} {g : Nat} {S S' : St} {Ps : List (World → List Nat → Prop)}
theorem di_reads (h : All w0 w (Di w0.heap.size g S :: Ps)) (i : Int) (l : List UInt8) (hr : refuse S i = 0) (hl : readT S i = l) : Calls Try.prog 14 #[.pointer (some ⟨g, 0, none⟩), .int .i64 i, .string ⟨l.toArray⟩] w fun e w' => e = .returned (.bool true) ∧ w = w' := by
  obtain ⟨f, d, _⟩ := h.opened
  exact reads_yes w _ g S f d i l hr hl
end
end DP
end Go.Proofs.Ytfikbnipkklliaa
