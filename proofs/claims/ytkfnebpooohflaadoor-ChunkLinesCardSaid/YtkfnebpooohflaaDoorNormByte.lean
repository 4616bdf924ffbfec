/-
  The byte that two hexadecimal digits say.
-/
import Derived.Test.YtkfnebpooohflaaDoorNormHex
namespace Go.Proofs.YtkfnebpooohflaaDoor.NormS
open Go.RowKit HeadMath NormMath

theorem hexN_lt (c : UInt8) : hexN c < 16 := by
  unfold hexN
  cases h : hexV c with
  | none => decide
  | some a => exact hexV_lt h
theorem or_nat (a b : Nat) (ha : a < 16) (hb : b < 16) : Go.bits .or .i64 ((a : Int) * 16) (b : Int) = ((16 * a + b : Nat) : Int) := by
  have H : ∀ a : Fin 16, ∀ b : Fin 16, Go.bits .or .i64 (((a.1 : Nat) : Int) * 16) ((b.1 : Nat) : Int) = ((16 * a.1 + b.1 : Nat) : Int) := by decide
  exact H ⟨a, ha⟩ ⟨b, hb⟩

end Go.Proofs.YtkfnebpooohflaaDoor.NormS