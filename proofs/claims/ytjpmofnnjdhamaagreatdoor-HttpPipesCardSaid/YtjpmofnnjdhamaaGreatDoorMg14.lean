/-
  The calendar, and the three texts of a time: plain mathematics. Nothing here speaks of the program.
-/
import Derived.Lib.Bytealg
namespace Go.Proofs.YtjpmofnnjdhamaaGreatDoor.DateMath

abbrev Bs := List UInt8
/-- A number of decimal digits. -/
def digitD (c : UInt8) : Bool := decide (48 ≤ c.toNat ∧ c.toNat ≤ 57)
def valD (l : Bs) : Nat := l.foldl (fun n c => n * 10 + (c.toNat - 48)) 0
def numF (l : Bs) (most : Nat) : Option Nat := if l.length ≠ 0 ∧ l.length ≤ most ∧ l.all digitD = true then some (valD l) else none
end Go.Proofs.YtjpmofnnjdhamaaGreatDoor.DateMath
