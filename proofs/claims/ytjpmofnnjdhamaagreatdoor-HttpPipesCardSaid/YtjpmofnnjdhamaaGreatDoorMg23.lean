/-
  mix: one block of 64 bytes into the state.
-/
import Derived.Defers
import Derived.Laws.Pointers
import Derived.Laws.LoneSync
import Derived.RegionTactic
import Derived.RegionCalls
import Derived.ChangeAlike
import Derived.Great.BuildSlice
import Derived.Deep.RegionLaw
import Derived.Deep.MidRow
import Derived.StillTailTactics
import Derived.Deep.Cut
import Derived.Test.YtjpmofnnjdhamaaGreatDoorMg3
namespace Go.Proofs.YtjpmofnnjdhamaaGreatDoor
open Go.RowKit

theorem heap_frozen {w : World} {g : Nat} {cs : Array Value} {t : TypeId} (h : w.heap[g]? = some (.cells cs t (0, 0))) (i : Nat) : w.frozen? ⟨g, i, none⟩ = false := by
  simp [World.frozen?, h]
end Go.Proofs.YtjpmofnnjdhamaaGreatDoor
