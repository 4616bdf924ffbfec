/-
  norm's Escapes answers what the mathematics says.
-/
import Derived.Test.YtmpgpcpeegdcaaaDoorRows
import Derived.Test.YtmpgpcpeegdcaaaDoorShelf
import Derived.WalkKit
import Derived.WalkSpells
import Derived.WalkLawsBesides
import Derived.Lib.Hide
import Derived.Lib.AppendStr
import Derived.Lib.Builder
import Derived.Lib.OwnKind
import Derived.Test.YtmpgpcpeegdcaaaDoorMg0
import Derived.Test.YtmpgpcpeegdcaaaDoorMg2
namespace Go.Proofs.YtmpgpcpeegdcaaaDoor.NormS
open Go.RowKit HeadMath NormMath

theorem size_list (s : ByteArray) : s.data.toList.length = s.size := by simp
end Go.Proofs.YtmpgpcpeegdcaaaDoor.NormS
