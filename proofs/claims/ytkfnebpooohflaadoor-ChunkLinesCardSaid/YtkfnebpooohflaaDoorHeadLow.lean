/-
  Small letters of a text, in the reference: a copy of its bytes, changed one by one.
-/
import Derived.Test.YtkfnebpooohflaaDoorHeadRefStrs
import Derived.Laws.OwnMore
import Derived.Deep.Draws
import Derived.Laws.Rows
namespace Go.Proofs.YtkfnebpooohflaaDoor.HeadS
open Go.RowKit HeadMath

def MBlk (w : World) (g : Nat) (t : TypeId) (cs : Array Value) (r : Nat × Nat) : Prop := w.heap[g]? = some (.cells cs t r)
section
variable {w w' : World} {g : Nat} {t : TypeId} {cs : Array Value} {r : Nat × Nat}
theorem MBlk.lt (h : MBlk w g t cs r) : g < w.heap.size := by
  rcases Nat.lt_or_ge g w.heap.size with hlt | hge
  · exact hlt
  · unfold MBlk at h; rw [Array.getElem?_eq_none hge] at h; cases h
theorem MBlk.cell (h : MBlk w g t cs r) (i : Nat) : w.cell? ⟨g, i, none⟩ = cs[i]? := cell_of_row w g i cs t r h
theorem MBlk.new (w : World) (t : TypeId) (cs : Array Value) (r : Nat × Nat) : MBlk (w.alloc (.cells cs t r)) w.heap.size t cs r := heap_alloc_new w _
end

end Go.Proofs.YtkfnebpooohflaaDoor.HeadS