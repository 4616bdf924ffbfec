/-
  The parts of a name's values, in the program.
-/
import Derived.Test.YtkfnebpooohflaaDoorHeadAll
import Derived.Lib.SmallJoins
namespace Go.Proofs.YtkfnebpooohflaaDoor.HeadS
open Go.RowKit HeadMath

theorem strCells_at {r : List ByteArray} {k : Nat} (h : k < r.length) : (strCells r)[k]? = some (.string r[k]) := by simp [strCells, h]

end Go.Proofs.YtkfnebpooohflaaDoor.HeadS