/-
  HeadSets.
-/
import Derived.Test.YtkfnebpooohflaaDoorHeadDrop
import Derived.Test.YtkfnebpooohflaaDoorProg
import Derived.WalkKit
import Derived.ProofKit
import Derived.OpenShut
import Derived.Deep.Slices
import Derived.Deep.Fields
import Derived.ChangeSame
import Derived.Test.YtkfnebpooohflaaDoorCards
import Derived.Test.YtkfnebpooohflaaDoorTie
import Derived.Test.YtkfnebpooohflaaDoorRows
import Derived.LaidMore
import Derived.Deep.DeepLaidRun
import Derived.SevenTiedAt
namespace Go.Proofs.YtkfnebpooohflaaDoor.HeadS
open Go.RowKit HeadMath

def FSlice (w : World) (r : Fs) (e : Ending) (w' : World) : Prop := ∃ a c, e = .returned (.slice a r.length c) ∧ FieldsIn w'.heap.size w' a r ∧ Below w.heap.size w w'
theorem FieldPost.slice {w : World} {r : Fs} {e : Ending} {w' : World} (h : FieldPost w r e w') : FSlice w r e w' := by
  obtain ⟨v, rfl, hown, hb⟩ := h
  rcases hown.2 with ⟨rfl, h1⟩ | ⟨g, c, cur, rfl, _⟩
  · have h0 : r = [] := List.eq_nil_of_length_eq_zero h1
    subst h0
    exact ⟨none, 0, rfl, fun j h => absurd h (by simp), hb⟩
  · exact ⟨_, _, rfl, fieldsIn_own hown, hb⟩
def SSlice (w : World) (r : List ByteArray) (e : Ending) (w' : World) : Prop := ∃ a c, e = .returned (.slice a r.length c) ∧ StrsIn w'.heap.size w' a r ∧ Below w.heap.size w w'
theorem RowPost.slice {w : World} {r : List ByteArray} {e : Ending} {w' : World} (h : RowPost w r e w') : SSlice w r e w' := by
  obtain ⟨v, rfl, hown, hb⟩ := h
  rcases hown.2 with ⟨rfl, h1⟩ | ⟨g, c, cur, rfl, _⟩
  · have h0 : r = [] := List.eq_nil_of_length_eq_zero h1
    subst h0
    exact ⟨none, 0, rfl, fun j h => absurd h (by simp), hb⟩
  · exact ⟨_, _, rfl, strsIn_own hown, hb⟩
end Go.Proofs.YtkfnebpooohflaaDoor.HeadS