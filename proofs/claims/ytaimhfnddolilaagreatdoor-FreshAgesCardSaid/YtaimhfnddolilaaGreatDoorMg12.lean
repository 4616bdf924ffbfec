/-
  Lines read as fields, in the reference.
-/
import Derived.Deep.RegionLaw
import Derived.Deep.AppendLies
import Derived.Test.YtaimhfnddolilaaGreatDoorMg11
namespace Go.Proofs.YtaimhfnddolilaaGreatDoor.HeadS
open Go.RowKit HeadMath

theorem refTrim_named {s vl : ByteArray} (w : World) (hs : s.size ≤ 140737488351232) (h : (⟨(trimF s.data.toList).toArray⟩ : ByteArray) = vl) :
    Calls Tryz.prog 53 #[.string s] w fun e w' => e = .returned (.string vl) ∧ w = w' := by
  subst h
  exact refTrim_any s w hs
end Go.Proofs.YtaimhfnddolilaaGreatDoor.HeadS
