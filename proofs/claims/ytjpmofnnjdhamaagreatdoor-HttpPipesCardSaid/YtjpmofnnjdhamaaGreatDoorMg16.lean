/-
  A region that draws its order, whose own operations only read and whose calls only make memory: one walk of the lexical order serves every order (Quiet.lean's theorem, at the class of the worlds that stand above w).
-/
import Derived.Test.YtjpmofnnjdhamaaGreatDoorProg
import Derived.WalkKit
import Derived.BigQuiet
namespace Go.Proofs.YtjpmofnnjdhamaaGreatDoor
open Go.RowKit

/-- A world that has grown out of w: all of w's blocks stand. -/
structure Kin (w : World) where
  wd : World
  below : Below w.heap.size w wd
instance kin_some (w : World) : Nonempty (Kin w) := ⟨⟨w, Below.refl _ _⟩⟩
end Go.Proofs.YtjpmofnnjdhamaaGreatDoor
