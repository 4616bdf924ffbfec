/-
  Text in quotes: plain mathematics of lists of bytes. Nothing here speaks of the program.
  A log's line as text: plain mathematics.
-/
import Derived.Lib.ItoaMem
import Derived.Test.YtjpmofnnjdhamaaGreatDoorMg1
namespace Go.Proofs.YtjpmofnnjdhamaaGreatDoor.LineMath
open Go Go.Proofs.YtjpmofnnjdhamaaGreatDoor HeadMath NormMath NormS

end Go.Proofs.YtjpmofnnjdhamaaGreatDoor.LineMath
namespace Go.Proofs.YtjpmofnnjdhamaaGreatDoor.LineMath
open Go Go.Proofs.YtjpmofnnjdhamaaGreatDoor HeadMath NormMath NormS

end Go.Proofs.YtjpmofnnjdhamaaGreatDoor.LineMath
