/-
  norm's Escapes answers what the mathematics says.
-/
import Derived.Test.YtkpkpfolgbpjbaaDoorRows
import Derived.Test.YtkpkpfolgbpjbaaDoorShelf
import Derived.WalkKit
import Derived.WalkSpells
import Derived.WalkLawsBesides
import Derived.Lib.Hide
import Derived.Lib.AppendStr
import Derived.Lib.Builder
import Derived.Lib.OwnKind
import Derived.Test.YtkpkpfolgbpjbaaDoorMg0
import Derived.Test.YtkpkpfolgbpjbaaDoorMg2
namespace Go.Proofs.YtkpkpfolgbpjbaaDoor.NormS
open Go.RowKit HeadMath NormMath

theorem size_list (s : ByteArray) : s.data.toList.length = s.size := by simp
end Go.Proofs.YtkpkpfolgbpjbaaDoor.NormS
