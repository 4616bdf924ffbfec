/-
  Sum: the SHA-256 of any bytes.
-/
import Derived.Deep.MidRow
import Derived.Deep.WholeRow
import Derived.Test.YtaimhfnddolilaaGreatDoorMg16
namespace Go.Proofs.YtaimhfnddolilaaGreatDoor
open Go.RowKit

def z8 : List Value := List.replicate 8 (.int .u32 0)
theorem there_of {w : World} {p : Nat} {cs : Array Value} {t : TypeId} (h : w.heap[p]? = some (.cells cs t (0, 0))) (o n : Nat) (hn : o + n ≤ cs.size) : w.there p o n := fun j hj => by
  constructor
  · rw [Lib.cell_of_heap h, Array.getElem?_eq_getElem (by omega)]; rfl
  · exact heap_frozen h _
end Go.Proofs.YtaimhfnddolilaaGreatDoor
