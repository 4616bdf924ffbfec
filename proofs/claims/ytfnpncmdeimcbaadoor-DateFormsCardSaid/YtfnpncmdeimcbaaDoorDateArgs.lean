/-
  Numbers that came in, opened.
-/
import Derived.Test.YtfnpncmdeimcbaaDoorDateKnown
import Derived.OpenShut
import Derived.ProofKit
namespace Go.Proofs.YtfnpncmdeimcbaaDoor
open Go.ChangeShapes Go.WideShapes Go.ChangeAt Go.RowKit

theorem i64_wideD {x : Int} (h : (Lit.int .i64 x).wf = true) : -9223372036854775808 ≤ x ∧ x ≤ 9223372036854775807 := by
  simp [Lit.wf] at h
  have e1 : IntKind.i64.min = -9223372036854775808 := by decide
  rw [e1] at h
  omega
theorem u8_openD {x : Int} (h : (Lit.int .u8 x).wf = true) : ∃ t : Nat, x = (t : Int) ∧ t < 256 := by
  simp [Lit.wf] at h
  have e1 : IntKind.u8.min = 0 := by decide
  have e2 : IntKind.u8.max = 255 := by decide
  rw [e1] at h
  exact ⟨x.toNat, by omega, by omega⟩
end Go.Proofs.YtfnpncmdeimcbaaDoor
