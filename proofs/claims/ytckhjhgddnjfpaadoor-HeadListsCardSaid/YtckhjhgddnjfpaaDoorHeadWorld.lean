/-
  A world for the witnesses: what the door's own run leaves, Go's own table of first bytes laid beside it.
-/
import Derived.Test.YtckhjhgddnjfpaaDoorProg
import Derived.Test.YtckhjhgddnjfpaaDoorCards
import Derived.Test.YtckhjhgddnjfpaaDoorTie
import Derived.Test.YtckhjhgddnjfpaaDoorRows
import Derived.LaidMore
import Derived.Deep.DeepLaidRun
import Derived.SevenTiedAt
namespace Go.Proofs.YtckhjhgddnjfpaaDoor

noncomputable def headWorld (os : Os) : World :=
  { World.doorLaid Tryd.prog 400 os with heap := (World.doorLaid Tryd.prog 400 os).heap.modify 1 fun
      | .cells _ t frozen => .cells (Go.Pinned.utf8FirstZ.map fun (n : Nat) => Value.int .u8 (n : Int)).toArray t frozen
      | o => o }
end Go.Proofs.YtckhjhgddnjfpaaDoor
