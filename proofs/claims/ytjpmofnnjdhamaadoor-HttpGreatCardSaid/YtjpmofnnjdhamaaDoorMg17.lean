/-
  Lines read as fields, in the reference.
-/
import Derived.Test.YtjpmofnnjdhamaaDoorProg
import Derived.WalkKit
import Derived.ProofKit
import Derived.OpenShut
import Derived.Deep.Slices
import Derived.Deep.Fields
import Derived.ChangeSame
import Derived.Test.YtjpmofnnjdhamaaDoorCards
import Derived.Test.YtjpmofnnjdhamaaDoorTie
import Derived.Test.YtjpmofnnjdhamaaDoorRows
import Derived.LaidMore
import Derived.Deep.DeepLaidRun
import Derived.SevenTiedAt
import Derived.Deep.RegionLaw
import Derived.Deep.AppendLies
import Derived.Test.YtjpmofnnjdhamaaDoorMg4
namespace Go.Proofs.YtjpmofnnjdhamaaDoor.HeadS
open Go.RowKit HeadMath

theorem colon_is {s : ByteArray} {k : Nat} (hk : k < s.size) (h : s[k] = 58) (hb : ∀ j (h : j < s.size), j < k → s[j] ≠ 58) : colonAt s = (k : Int) := by
  have hl : s.data.toList[k]? = some 58 := by
    rw [List.getElem?_eq_getElem (by rw [size_list]; exact hk)]
    exact congrArg some h
  have hge := Lib.indexByte_ge s.data.toList 58
  unfold colonAt
  rcases (show Lib.indexByte s.data.toList 58 < 0 ∨ 0 ≤ Lib.indexByte s.data.toList 58 by omega) with h0 | h0
  · exact absurd hl (Lib.indexByte_none (by omega) k)
  · obtain ⟨o, ho⟩ : ∃ o : Nat, Lib.indexByte s.data.toList 58 = o := ⟨(Lib.indexByte s.data.toList 58).toNat, by omega⟩
    obtain ⟨h1, h2⟩ := Lib.indexByte_some ho
    rw [ho]
    rcases Nat.lt_trichotomy o k with h3 | h3 | h3
    · have ho2 : o < s.size := by omega
      rw [List.getElem?_eq_getElem (by rw [size_list]; exact ho2)] at h1
      exact absurd (Option.some.inj h1) (hb o ho2 h3)
    · rw [h3]
    · exact absurd hl (h2 k h3)
end Go.Proofs.YtjpmofnnjdhamaaDoor.HeadS
