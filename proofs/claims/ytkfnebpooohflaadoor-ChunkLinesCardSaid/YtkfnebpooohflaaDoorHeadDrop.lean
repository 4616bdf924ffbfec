/-
  Fields left out and put, in the program.
-/
import Derived.Test.YtkfnebpooohflaaDoorHeadKnown
namespace Go.Proofs.YtkfnebpooohflaaDoor.HeadS
open Go.RowKit HeadMath

abbrev Fs := List (ByteArray × ByteArray)
def FieldPost (w : World) (r : Fs) (e : Ending) (w' : World) : Prop :=
  ∃ v, e = .returned v ∧ w'.ownsRow w.heap.size 69 2 v r.length (fieldCells r) ∧ Below w.heap.size w w'
end Go.Proofs.YtkfnebpooohflaaDoor.HeadS