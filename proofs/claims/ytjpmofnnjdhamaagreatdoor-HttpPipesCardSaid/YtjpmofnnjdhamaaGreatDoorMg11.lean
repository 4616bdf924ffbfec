/-
  HeadSets.
-/
import Derived.Test.YtjpmofnnjdhamaaGreatDoorProg
import Derived.Test.YtjpmofnnjdhamaaGreatDoorCards
import Derived.Test.YtjpmofnnjdhamaaGreatDoorTie
import Derived.Test.YtjpmofnnjdhamaaGreatDoorRows
import Derived.LaidMore
import Derived.Deep.DeepLaidRun
import Derived.SevenTiedAt
import Derived.Test.YtjpmofnnjdhamaaGreatDoorMg10
namespace Go.Proofs.YtjpmofnnjdhamaaGreatDoor.HeadS
open Go.RowKit HeadMath

def FSlice (w : World) (r : Fs) (e : Ending) (w' : World) : Prop := ∃ a c, e = .returned (.slice a r.length c) ∧ FieldsIn w'.heap.size w' a r ∧ Below w.heap.size w w'
theorem FieldPost.slice {w : World} {r : Fs} {e : Ending} {w' : World} (h : FieldPost w r e w') : FSlice w r e w' := by
  obtain ⟨v, rfl, hown, hb⟩ := h
  rcases hown.2 with ⟨rfl, h1⟩ | ⟨g, c, cur, rfl, _⟩
  · have h0 : r = [] := List.eq_nil_of_length_eq_zero h1
    subst h0
    exact ⟨none, 0, rfl, fun j h => absurd h (by simp), hb⟩
  · exact ⟨_, _, rfl, fieldsIn_own hown, hb⟩
def SSlice (w : World) (r : List ByteArray) (e : Ending) (w' : World) : Prop := ∃ a c, e = .returned (.slice a r.length c) ∧ StrsIn w'.heap.size w' a r ∧ Below w.heap.size w w'
theorem RowPost.slice {w : World} {r : List ByteArray} {e : Ending} {w' : World} (h : RowPost w r e w') : SSlice w r e w' := by
  obtain ⟨v, rfl, hown, hb⟩ := h
  rcases hown.2 with ⟨rfl, h1⟩ | ⟨g, c, cur, rfl, _⟩
  · have h0 : r = [] := List.eq_nil_of_length_eq_zero h1
    subst h0
    exact ⟨none, 0, rfl, fun j h => absurd h (by simp), hb⟩
  · exact ⟨_, _, rfl, strsIn_own hown, hb⟩
theorem inNames_one (n x : ByteArray) : inNames [n] x = isNamed n (x, x) := by unfold inNames isNamed; simp
end Go.Proofs.YtjpmofnnjdhamaaGreatDoor.HeadS
