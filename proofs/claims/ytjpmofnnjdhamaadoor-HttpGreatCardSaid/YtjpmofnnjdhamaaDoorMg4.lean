/-
  The statements' first test: constants.
  Fields left out and put, in the program.
-/
import Derived.Test.YtjpmofnnjdhamaaDoorRows
import Derived.Test.YtjpmofnnjdhamaaDoorShelf
import Derived.WalkKit
import Derived.WalkSpells
import Derived.WalkLawsBesides
import Derived.Lib.Hide
import Derived.Lib.AppendStr
import Derived.Lib.Builder
import Derived.Lib.OwnKind
import Derived.Test.YtjpmofnnjdhamaaDoorMg3
namespace Go.Proofs.YtjpmofnnjdhamaaDoor.HeadS
open Go.RowKit HeadMath

theorem fieldCells_at : ∀ (l : List (ByteArray × ByteArray)) (k : Nat) (h : k < l.length), (fieldCells l)[k * 2]? = some (.string l[k].1) ∧ (fieldCells l)[k * 2 + 1]? = some (.string l[k].2)
  | [], k, h => absurd h (by simp)
  | x :: l, 0, _ => by simp [fieldCells]
  | x :: l, k + 1, h => by
    have ih := fieldCells_at l k (by simpa using h)
    have e : ∀ j, (fieldCells (x :: l))[j + 2]? = (fieldCells l)[j]? := fun j => by simp [fieldCells]
    rw [show (k + 1) * 2 = k * 2 + 2 from by omega, show k * 2 + 2 + 1 = (k * 2 + 1) + 2 from by omega, e, e]
    exact ih
theorem fieldsIn_own {w : World} {base g c : Nat} {e : TypeId} {fs : List (ByteArray × ByteArray)} (h : w.ownsRow base e 2 (.slice (some ⟨g, 0, none⟩) fs.length c) fs.length (fieldCells fs)) : FieldsIn w.heap.size w (some ⟨g, 0, none⟩) fs := by
  intro j hj
  have hc := fieldCells_at fs j hj
  refine ⟨g, 0, rfl, (h.lt g rfl).2, ?_, ?_⟩
  · rw [Nat.zero_add, World.ownsRow.cellAt h _ (by omega)]; exact hc.1
  · rw [Nat.zero_add, World.ownsRow.cellAt h _ (by omega)]; exact hc.2
end Go.Proofs.YtjpmofnnjdhamaaDoor.HeadS
namespace Go.Proofs.YtjpmofnnjdhamaaDoor.HeadS
open Go.RowKit HeadMath

abbrev Fs := List (ByteArray × ByteArray)
def inNames (ns : List ByteArray) (nm : ByteArray) : Bool := ns.any fun n => sameF nm.data.toList n.data.toList
def dropF (ns : List ByteArray) (l : Fs) : Fs := l.filter fun f => !inNames ns f.1
theorem dropF_len (ns : List ByteArray) (l : Fs) : (dropF ns l).length ≤ l.length := List.length_filter_le _ _

theorem ownsRow_base {w : World} {B B' : Nat} {e : TypeId} {size : Nat} {v : Value} {n : Nat} {xs : List Value} (h : w.ownsRow B e size v n xs) (hB : B' ≤ B) : w.ownsRow B' e size v n xs := by
  refine ⟨h.1, ?_⟩
  rcases h.2 with h0 | ⟨g, cap, cur, hv, hg, rest⟩
  · exact .inl h0
  · exact .inr ⟨g, cap, cur, hv, Nat.le_trans hB hg, rest⟩
end Go.Proofs.YtjpmofnnjdhamaaDoor.HeadS
