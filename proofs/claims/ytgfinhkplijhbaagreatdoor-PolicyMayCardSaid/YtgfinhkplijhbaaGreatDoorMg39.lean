/-
  The names of days and months, cut from one text each.
  words: the names at hand, cut the first time.
-/
import Derived.Defers
import Derived.Laws.Pointers
import Derived.Laws.LoneSync
import Derived.RegionTactic
import Derived.RegionCalls
import Derived.ChangeAlike
import Derived.Deep.RegionHeld3
import Derived.Lib.Fields
import Derived.Lib.LaidTab
import Derived.Test.YtgfinhkplijhbaaGreatDoorMg7
import Derived.Test.YtgfinhkplijhbaaGreatDoorMg38
namespace Go.Proofs.YtgfinhkplijhbaaGreatDoor
open Go.RowKit DateMath

def dayA : Array Value := (dayL.map fun l => Value.string ⟨l.toArray⟩).toArray
def monA : Array Value := (monL.map fun l => Value.string ⟨l.toArray⟩).toArray
end Go.Proofs.YtgfinhkplijhbaaGreatDoor
namespace Go.Proofs.YtgfinhkplijhbaaGreatDoor
open Go.RowKit DateMath

end Go.Proofs.YtgfinhkplijhbaaGreatDoor
