/-
  All values of a name, in the program.
-/
import Derived.Test.YtkfnebpooohflaaDoorHeadGet
namespace Go.Proofs.YtkfnebpooohflaaDoor.HeadS
open Go.RowKit HeadMath

def strCells (l : List ByteArray) : List Value := l.map fun s => .string s
def RowPost (w : World) (r : List ByteArray) (e : Ending) (w' : World) : Prop :=
  ∃ v, e = .returned v ∧ w'.ownsRow w.heap.size 9 1 v r.length (strCells r) ∧ Below w.heap.size w w'

end Go.Proofs.YtkfnebpooohflaaDoor.HeadS