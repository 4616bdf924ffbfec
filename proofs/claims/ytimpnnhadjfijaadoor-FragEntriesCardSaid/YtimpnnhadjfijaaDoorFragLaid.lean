/-
  The listed table, and integers that came in.
-/
import Derived.Test.YtimpnnhadjfijaaDoorFragKnown
import Derived.Test.YtimpnnhadjfijaaDoorLaidInts
import Derived.Test.YtimpnnhadjfijaaDoorRows
namespace Go.Proofs.YtimpnnhadjfijaaDoor
open Go.RowKit CrcMath
open Go.WideShapes Go.ChangeAt

theorem steps_of_laid {W : World} (h : laidMetH Tryd.prog [("ambry/code.crcSteps", Rows.laid_ambry_code_crcSteps)] W) : Steps W := by
  rw [Go.MakeChecks.laidMetH_plain _ _ _ (by rfl)] at h
  have := ints_of_laid (n := "ambry/code.crcSteps") (g := 0) (t := 91) (e := 42) (k := .u32) (m := 16) (zs := tab.map fun (n : Nat) => (n : Int)) h (by simp [Rows.laid_ambry_code_crcSteps, tab]) (by kernel_rfl) (by kernel_rfl) Tryd.underlying91 (by kernel_rfl) Tryd.underlying42
  intro r hr
  refine (this r (by simpa [tab] using hr)).trans ?_
  congr 2
  rw [List.getD_eq_getElem?_getD, List.getD_eq_getElem?_getD, List.getElem?_map]
  rw [List.getElem?_eq_getElem (by simpa [tab] using hr)]
  rfl
theorem i64_bound {x : Int} (h : (Lit.int .i64 x).wf = true) : -9223372036854775808 ≤ x ∧ x < 9223372036854775808 := by
  simp [Lit.wf] at h
  have e1 : IntKind.i64.min = -9223372036854775808 := by decide
  rw [e1] at h
  omega
theorem u8_nat {x : Int} (h : (Lit.int .u8 x).wf = true) : ∃ k : Nat, k < 256 ∧ x = (k : Int) := by
  simp [Lit.wf] at h
  have e1 : IntKind.u8.min = 0 := by decide
  have e2 : IntKind.u8.max = 255 := by decide
  rw [e1, e2] at h
  exact ⟨x.toNat, by omega, by omega⟩
theorem u16_nat {x : Int} (h : (Lit.int .u16 x).wf = true) : ∃ k : Nat, k < 65536 ∧ x = (k : Int) := by
  simp [Lit.wf] at h
  have e1 : IntKind.u16.min = 0 := by decide
  have e2 : IntKind.u16.max = 65535 := by decide
  rw [e1, e2] at h
  exact ⟨x.toNat, by omega, by omega⟩
theorem u32_nat {x : Int} (h : (Lit.int .u32 x).wf = true) : ∃ k : Nat, k < 4294967296 ∧ x = (k : Int) := by
  simp [Lit.wf] at h
  have e1 : IntKind.u32.min = 0 := by decide
  have e2 : IntKind.u32.max = 4294967295 := by decide
  rw [e1, e2] at h
  exact ⟨x.toNat, by omega, by omega⟩
theorem u64_nat {x : Int} (h : (Lit.int .u64 x).wf = true) : ∃ k : Nat, k < 18446744073709551616 ∧ x = (k : Int) := by
  simp [Lit.wf] at h
  have e1 : IntKind.u64.min = 0 := by decide
  have e2 : IntKind.u64.max = 18446744073709551615 := by decide
  rw [e1, e2] at h
  exact ⟨x.toNat, by omega, by omega⟩
end Go.Proofs.YtimpnnhadjfijaaDoor
