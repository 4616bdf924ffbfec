/-
  A log's line as text: plain mathematics.
-/
import Derived.Lib.ItoaMem
import Derived.Test.YtjpmofnnjdhamaaDoorMg9
import Derived.Test.YtjpmofnnjdhamaaDoorMg28
namespace Go.Proofs.YtjpmofnnjdhamaaDoor.LineMath
open Go Go.Proofs.YtjpmofnnjdhamaaDoor HeadMath NormMath NormS

end Go.Proofs.YtjpmofnnjdhamaaDoor.LineMath
