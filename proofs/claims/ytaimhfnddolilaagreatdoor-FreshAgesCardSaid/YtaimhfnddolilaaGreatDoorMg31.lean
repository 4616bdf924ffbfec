/-
  Names in order, each once: sorted and compacted, or put in one by one, they are the same list.
-/
import Derived.Sort.Walk0
import Derived.Lib.Bytealg
namespace Go.Proofs.YtaimhfnddolilaaGreatDoor.VaryMath
open Go.Sort

end Go.Proofs.YtaimhfnddolilaaGreatDoor.VaryMath
