/-
  The laws' arguments.
-/
import Derived.Test.YtjdiaighfhljgaaDoorConfMany
import Derived.Test.YtjdiaighfhljgaaDoorConfGreat
import Derived.Test.YtjdiaighfhljgaaDoorHandedBoth
namespace Go.Proofs.YtjdiaighfhljgaaDoor
open Go.RowKit

theorem u8_nat {x : Int} (h : (Lit.int .u8 x).wf = true) : ∃ k : Nat, k < 256 ∧ x = (k : Int) := by
  have h2 : (0 : Int) ≤ x ∧ x ≤ 255 := by simpa [Lit.wf, IntKind.min, IntKind.max, IntKind.bits, IntKind.signed] using h
  exact ⟨x.toNat, by omega, by omega⟩
theorem u16_nat {x : Int} (h : (Lit.int .u16 x).wf = true) : ∃ k : Nat, k < 65536 ∧ x = (k : Int) := by
  have h2 : (0 : Int) ≤ x ∧ x ≤ 65535 := by simpa [Lit.wf, IntKind.min, IntKind.max, IntKind.bits, IntKind.signed] using h
  exact ⟨x.toNat, by omega, by omega⟩
end Go.Proofs.YtjdiaighfhljgaaDoor
