/-
  The statements' first test: constants.
-/
import Derived.Test.YtkfnebpooohflaaDoorHeadList
import Derived.Test.YtkfnebpooohflaaDoorRows
import Derived.Test.YtkfnebpooohflaaDoorShelf
import Derived.WalkKit
import Derived.WalkSpells
import Derived.WalkLawsBesides
import Derived.Lib.Hide
import Derived.Lib.AppendStr
import Derived.Lib.Builder
import Derived.Lib.OwnKind
namespace Go.Proofs.YtkfnebpooohflaaDoor.HeadS
open Go.RowKit HeadMath

theorem fieldCells_at : ∀ (l : List (ByteArray × ByteArray)) (k : Nat) (h : k < l.length), (fieldCells l)[k * 2]? = some (.string l[k].1) ∧ (fieldCells l)[k * 2 + 1]? = some (.string l[k].2)
  | [], k, h => absurd h (by simp)
  | x :: l, 0, _ => by simp [fieldCells]
  | x :: l, k + 1, h => by
    have ih := fieldCells_at l k (by simpa using h)
    have e : ∀ j, (fieldCells (x :: l))[j + 2]? = (fieldCells l)[j]? := fun j => by simp [fieldCells]
    rw [show (k + 1) * 2 = k * 2 + 2 from by omega, show k * 2 + 2 + 1 = (k * 2 + 1) + 2 from by omega, e, e]
    exact ih
theorem fieldsIn_own {w : World} {base g c : Nat} {e : TypeId} {fs : List (ByteArray × ByteArray)} (h : w.ownsRow base e 2 (.slice (some ⟨g, 0, none⟩) fs.length c) fs.length (fieldCells fs)) : FieldsIn w.heap.size w (some ⟨g, 0, none⟩) fs := by
  intro j hj
  have hc := fieldCells_at fs j hj
  refine ⟨g, 0, rfl, (h.lt g rfl).2, ?_, ?_⟩
  · rw [Nat.zero_add, World.ownsRow.cellAt h _ (by omega)]; exact hc.1
  · rw [Nat.zero_add, World.ownsRow.cellAt h _ (by omega)]; exact hc.2
theorem strsIn_own {w : World} {base g c : Nat} {e : TypeId} {r : List ByteArray} (h : w.ownsRow base e 1 (.slice (some ⟨g, 0, none⟩) r.length c) r.length (strCells r)) : StrsIn w.heap.size w (some ⟨g, 0, none⟩) r := by
  intro j hj
  refine ⟨g, 0, rfl, (h.lt g rfl).2, ?_⟩
  rw [Nat.zero_add, World.ownsRow.cellAt h _ (by omega), strCells_at hj]
end Go.Proofs.YtkfnebpooohflaaDoor.HeadS