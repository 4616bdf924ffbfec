/-
  Sum: the SHA-256 of any bytes.
-/
import Derived.Test.YtjdiaighfhljgaaDoorShaEnd
import Derived.Deep.MidRow
import Derived.Deep.WholeRow
namespace Go.Proofs.YtjdiaighfhljgaaDoor
open Go.RowKit

theorem there_of {w : World} {p : Nat} {cs : Array Value} {t : TypeId} (h : w.heap[p]? = some (.cells cs t (0, 0))) (o n : Nat) (hn : o + n ≤ cs.size) : w.there p o n := fun j hj => by
  constructor
  · rw [Lib.cell_of_heap h, Array.getElem?_eq_getElem (by omega)]; rfl
  · exact heap_frozen h _
end Go.Proofs.YtjdiaighfhljgaaDoor
