/-
  norm's Escapes answers what the mathematics says.
-/
import Derived.Test.YtgfinhkplijhbaaGreatDoorMg0
import Derived.Test.YtgfinhkplijhbaaGreatDoorMg2
import Derived.Test.YtgfinhkplijhbaaGreatDoorMg4
namespace Go.Proofs.YtgfinhkplijhbaaGreatDoor.NormS
open Go.RowKit HeadMath NormMath

theorem size_list (s : ByteArray) : s.data.toList.length = s.size := by simp
end Go.Proofs.YtgfinhkplijhbaaGreatDoor.NormS
