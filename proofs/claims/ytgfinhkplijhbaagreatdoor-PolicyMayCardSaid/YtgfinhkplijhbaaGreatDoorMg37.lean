/-
  Counts of days, and the time of a count.
-/
import Derived.Test.YtgfinhkplijhbaaGreatDoorShelf
import Derived.Lib.Hide
import Derived.BigQuiet
import Derived.Test.YtgfinhkplijhbaaGreatDoorMg7
import Derived.Test.YtgfinhkplijhbaaGreatDoorMg36
namespace Go.Proofs.YtgfinhkplijhbaaGreatDoor
open Go.RowKit DateMath

theorem ret_int {k : IntKind} {a b : Int} (h : a = b) : Ending.returned (.int k a) = .returned (.int k b) := by rw [h]
theorem wrap_in {a : Int} (h1 : -9223372036854775808 ≤ a) (h2 : a ≤ 9223372036854775807) : IntKind.i64.wrap a = a := IntWalk.i64_in _ ⟨h1, h2⟩
end Go.Proofs.YtgfinhkplijhbaaGreatDoor
