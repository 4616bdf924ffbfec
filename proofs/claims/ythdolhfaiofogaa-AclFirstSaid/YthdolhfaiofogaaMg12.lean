/-
  The parts of a name's values, in the program.
-/
import Derived.Lib.SmallJoins
import Derived.Test.YthdolhfaiofogaaMg9
namespace Go.Proofs.Ythdolhfaiofogaa.HeadS
open Go.RowKit HeadMath

theorem strCells_at {r : List ByteArray} {k : Nat} (h : k < r.length) : (strCells r)[k]? = some (.string r[k]) := by simp [strCells, h]

end Go.Proofs.Ythdolhfaiofogaa.HeadS
