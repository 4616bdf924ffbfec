/-
  The plain mathematics of fields: letters, tokens, values, lists. Nothing here speaks of the program.
  norm's mathematics: escapes.
-/
namespace Go.Proofs.YtkbcklaloblmeaaGreatDoor.HeadMath

def small (c : UInt8) : UInt8 := if 65 ≤ c.toNat ∧ c.toNat ≤ 90 then UInt8.ofNat (c.toNat + 32) else c
theorem small_up {c : UInt8} (h : 65 ≤ c.toNat ∧ c.toNat ≤ 90) : (small c).toNat = c.toNat + 32 := by
  unfold small; rw [if_pos h]; simp; omega
theorem small_other {c : UInt8} (h : ¬ (65 ≤ c.toNat ∧ c.toNat ≤ 90)) : small c = c := by
  unfold small; rw [if_neg h]
def digitB (c : UInt8) : Bool := decide (48 ≤ c.toNat ∧ c.toNat ≤ 57)
end Go.Proofs.YtkbcklaloblmeaaGreatDoor.HeadMath
namespace Go.Proofs.YtkbcklaloblmeaaGreatDoor.NormMath
open Go.Proofs.YtkbcklaloblmeaaGreatDoor.HeadMath

def hexV (c : UInt8) : Option Nat :=
  if 48 ≤ c.toNat ∧ c.toNat ≤ 57 then some (c.toNat - 48) else if 97 ≤ c.toNat ∧ c.toNat ≤ 102 then some (c.toNat - 87) else if 65 ≤ c.toNat ∧ c.toNat ≤ 70 then some (c.toNat - 55) else none
theorem hexV_lt {c : UInt8} {a : Nat} (h : hexV c = some a) : a < 16 := by
  unfold hexV at h
  split at h
  · cases h; omega
  · split at h
    · cases h; omega
    · split at h
      · cases h; omega
      · cases h
def digit (n : Nat) : UInt8 := if n < 10 then UInt8.ofNat (48 + n) else UInt8.ofNat (55 + n)
end Go.Proofs.YtkbcklaloblmeaaGreatDoor.NormMath
