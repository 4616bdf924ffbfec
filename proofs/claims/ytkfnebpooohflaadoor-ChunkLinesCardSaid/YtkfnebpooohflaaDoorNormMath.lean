/-
  norm's mathematics: escapes.
-/
import Derived.Test.YtkfnebpooohflaaDoorHeadMath
namespace Go.Proofs.YtkfnebpooohflaaDoor.NormMath
open Go.Proofs.YtkfnebpooohflaaDoor.HeadMath

def hexV (c : UInt8) : Option Nat :=
  if 48 ≤ c.toNat ∧ c.toNat ≤ 57 then some (c.toNat - 48) else if 97 ≤ c.toNat ∧ c.toNat ≤ 102 then some (c.toNat - 87) else if 65 ≤ c.toNat ∧ c.toNat ≤ 70 then some (c.toNat - 55) else none
theorem hexV_lt {c : UInt8} {a : Nat} (h : hexV c = some a) : a < 16 := by
  unfold hexV at h
  split at h
  · cases h; omega
  · split at h
    · cases h; omega
    · split at h
      · cases h; omega
      · cases h
def digit (n : Nat) : UInt8 := if n < 10 then UInt8.ofNat (48 + n) else UInt8.ofNat (55 + n)
end Go.Proofs.YtkfnebpooohflaaDoor.NormMath
