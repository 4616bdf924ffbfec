/-
  Two digits, and the clock's text.
-/
import Derived.Deep.MidRow
import Derived.Lib.Itoa
import Derived.Test.YtgfinhkplijhbaaGreatDoorMg22
import Derived.Test.YtgfinhkplijhbaaGreatDoorMg37
namespace Go.Proofs.YtgfinhkplijhbaaGreatDoor
open Go.RowKit DateMath

def arrD (l : Bs) : ByteArray := ⟨l.toArray⟩
theorem arrD_app (a b : Bs) : arrD a ++ arrD b = arrD (a ++ b) := by
  apply ByteArray.ext
  unfold arrD
  rw [ByteArray.data_append]
  simp
theorem arrD_size (l : Bs) : (arrD l).size = l.length := by show l.toArray.size = _; simp
theorem add_str {x y z : ByteArray} (h : x ++ y = z) (hs : x.size + y.size ≤ 1000) : (∀ w, (Op.stringOp .add x y).run Tryz.prog w = .ok (.string z) w) ∧ ¬ (9223372036854775807 < x.size + y.size) :=
  ⟨fun w => h ▸ run_string_add_sum w _ _ (by omega), by omega⟩
end Go.Proofs.YtgfinhkplijhbaaGreatDoor
