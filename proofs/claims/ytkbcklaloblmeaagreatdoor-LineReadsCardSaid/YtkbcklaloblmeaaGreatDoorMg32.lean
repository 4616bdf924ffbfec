/-
  The table that is laid, where the walks read it.
-/
import Derived.Test.YtkbcklaloblmeaaGreatDoorRows
import Derived.Test.YtkbcklaloblmeaaGreatDoorMg7
import Derived.Test.YtkbcklaloblmeaaGreatDoorMg23
namespace Go.Proofs.YtkbcklaloblmeaaGreatDoor.ChunkS
open Go.RowKit

def bruijn : List Int := [0, 1, 56, 2, 57, 49, 28, 3, 61, 58, 42, 50, 38, 29, 17, 4, 62, 47, 59, 36, 45, 43, 51, 22, 53, 39, 33, 30, 24, 18, 12, 5, 63, 55, 48, 27, 60, 41, 37, 16, 46, 35, 44, 21, 52, 32, 23, 11, 54, 26, 40, 15, 34, 20, 31, 10, 25, 14, 19, 9, 13, 8, 7, 6]
set_option maxRecDepth 100000 in
theorem tabZ_of_laid {W : World} {laid : List (String × DataW Unit)} (h : laidMet Tryz.prog laid W) (hm : ("math/bits.deBruijn64tab", (Rows.laid_math_bits_deBruijn64tab : DataW Unit)) ∈ laid) : TabZ W := by
  have e : (Rows.laid_math_bits_deBruijn64tab : DataW Unit) = .agg (bruijn.map fun z => .lit (.int .u8 z)) := by kernel_rfl
  rw [e] at hm
  have := ints_of_laid (n := "math/bits.deBruijn64tab") (g := 5) (t := 170) (e := 5) (k := .u8) (m := 64) (zs := bruijn) h hm (by kernel_rfl) (by kernel_rfl) Tryz.underlying170 (by kernel_rfl) Tryz.underlying5 15 (by decide)
  exact this
theorem i64_wide {x : Int} (h : (Lit.int .i64 x).wf = true) : -9223372036854775808 ≤ x ∧ x ≤ 9223372036854775807 := by
  simpa [Lit.wf, IntKind.min, IntKind.max, IntKind.bits, IntKind.signed] using h
theorem u8_wide {x : Int} (h : (Lit.int .u8 x).wf = true) : 0 ≤ x ∧ x < 256 := by
  have h2 : (0 : Int) ≤ x ∧ x ≤ 255 := by simpa [Lit.wf, IntKind.min, IntKind.max, IntKind.bits, IntKind.signed] using h
  omega
end Go.Proofs.YtkbcklaloblmeaaGreatDoor.ChunkS
