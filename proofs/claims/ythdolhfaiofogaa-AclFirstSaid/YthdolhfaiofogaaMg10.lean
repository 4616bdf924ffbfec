/-
  norm's Escapes answers what the mathematics says.
-/
import Derived.Test.YthdolhfaiofogaaRows
import Derived.Test.YthdolhfaiofogaaShelf
import Derived.WalkKit
import Derived.WalkSpells
import Derived.WalkLawsBesides
import Derived.Lib.Hide
import Derived.Lib.AppendStr
import Derived.Lib.Builder
import Derived.Lib.OwnKind
import Derived.Test.YthdolhfaiofogaaMg4
import Derived.Test.YthdolhfaiofogaaMg9
namespace Go.Proofs.Ythdolhfaiofogaa.NormS
open Go.RowKit HeadMath NormMath

theorem size_list (s : ByteArray) : s.data.toList.length = s.size := by simp
theorem list_at (s : ByteArray) (j : Nat) (h : j < s.size) : s.data.toList[j]'(by rw [size_list]; exact h) = s[j] := rfl
theorem extract_size (s : ByteArray) (a b : Nat) (_h : a ≤ b) (hb : b ≤ s.size) : (s.extract a b).size = b - a := by
  rw [ByteArray.size_extract]; omega
theorem extract_at (s : ByteArray) (a b j : Nat) (h : a + j < b) (hb : b ≤ s.size) : (s.extract a b)[j]'(by rw [extract_size s a b (by omega) hb]; omega) = s[a + j] := by
  rw [ByteArray.getElem_extract]

end Go.Proofs.Ythdolhfaiofogaa.NormS
