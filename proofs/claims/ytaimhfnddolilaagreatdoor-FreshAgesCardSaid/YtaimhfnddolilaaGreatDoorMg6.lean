/-
  norm's Escapes answers what the mathematics says.
-/
import Derived.Test.YtaimhfnddolilaaGreatDoorMg0
import Derived.Test.YtaimhfnddolilaaGreatDoorMg2
import Derived.Test.YtaimhfnddolilaaGreatDoorMg4
namespace Go.Proofs.YtaimhfnddolilaaGreatDoor.NormS
open Go.RowKit HeadMath NormMath

theorem size_list (s : ByteArray) : s.data.toList.length = s.size := by simp
end Go.Proofs.YtaimhfnddolilaaGreatDoor.NormS
