/-
  mix: one block of 64 bytes into the state.
-/
import Derived.StillTailTactics
import Derived.Deep.Cut
import Derived.Test.YtihbjkdgfflnfaaMg1
import Derived.Test.YtihbjkdgfflnfaaMg2
namespace Go.Proofs.Ytihbjkdgfflnfaa
open Go.RowKit

theorem heap_frozen {w : World} {g : Nat} {cs : Array Value} {t : TypeId} (h : w.heap[g]? = some (.cells cs t (0, 0))) (i : Nat) : w.frozen? ⟨g, i, none⟩ = false := by
  simp [World.frozen?, h]
end Go.Proofs.Ytihbjkdgfflnfaa
