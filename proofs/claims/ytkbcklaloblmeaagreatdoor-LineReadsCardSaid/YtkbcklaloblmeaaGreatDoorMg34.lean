/-
  The tables that are laid, where the walks read them.
-/
import Derived.Test.YtkbcklaloblmeaaGreatDoorMg31
import Derived.Test.YtkbcklaloblmeaaGreatDoorMg32
import Derived.Test.YtkbcklaloblmeaaGreatDoorMg33
namespace Go.Proofs.YtkbcklaloblmeaaGreatDoor
open Go.RowKit ChunkS DateMath

theorem tabs4_of {W : World} {laid : List (String × DataW Unit)} (h : laidMet Tryz.prog laid W) (h1 : ("internal/strconv.uint64pow10", (Rows.laid_internal_strconv_uint64pow10 : DataW Unit)) ∈ laid)
    (h2 : ("strings.asciiSpace", (Rows.laid_strings_asciiSpace : DataW Unit)) ∈ laid) (h3 : ("math/bits.deBruijn64tab", (Rows.laid_math_bits_deBruijn64tab : DataW Unit)) ∈ laid) (hm : MaxL W) : Tabs4 W :=
  ⟨⟨tabP_of_laid h h1, tabS_of_laid h h2⟩, tabZ_of_laid h h3, hm⟩
theorem u16_nat {x : Int} (h : (Lit.int .u16 x).wf = true) : ∃ j : Nat, j < 65536 ∧ x = (j : Int) := by
  have h2 : (0 : Int) ≤ x ∧ x ≤ 65535 := by simpa [Lit.wf, IntKind.min, IntKind.max, IntKind.bits, IntKind.signed] using h
  exact ⟨x.toNat, by omega, by omega⟩
end Go.Proofs.YtkbcklaloblmeaaGreatDoor
