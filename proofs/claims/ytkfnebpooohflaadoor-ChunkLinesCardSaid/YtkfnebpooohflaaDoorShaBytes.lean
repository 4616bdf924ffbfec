/-
  Words read from bytes, and written as bytes.
-/
import Derived.Test.YtkfnebpooohflaaDoorBytes2
namespace Go.Proofs.YtkfnebpooohflaaDoor
open Go.RowKit

theorem heap_set {w : World} {g : Nat} {t : TypeId} {cs : Array Value} (h : w.heap[g]? = some (.cells cs t (0, 0))) (i : Nat) (u : Value) : (w.setCell ⟨g, i, none⟩ u).heap[g]? = some (.cells (cs.setIfInBounds i u) t (0, 0)) := by
  simp [World.setCell, Array.getElem?_modify, h]
end Go.Proofs.YtkfnebpooohflaaDoor
