/-
  Text in quotes: plain mathematics of lists of bytes. Nothing here speaks of the program.
-/
import Derived.Test.YtjpmofnnjdhamaaDoorMg1
namespace Go.Proofs.YtjpmofnnjdhamaaDoor.LineMath
open Go Go.Proofs.YtjpmofnnjdhamaaDoor HeadMath NormMath NormS

end Go.Proofs.YtjpmofnnjdhamaaDoor.LineMath
