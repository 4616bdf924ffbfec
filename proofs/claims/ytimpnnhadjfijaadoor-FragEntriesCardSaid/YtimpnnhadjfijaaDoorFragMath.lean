/-
  Numbers as bytes, the highest first, and a fragment's bytes.
-/
import Derived.Test.YtimpnnhadjfijaaDoorShaRefPut
namespace Go.Proofs.YtimpnnhadjfijaaDoor
open Go.RowKit

def ofBE (l : List UInt8) : Nat := l.foldl (fun n c => n * 256 + c.toNat) 0
theorem ofBE_snoc (l : List UInt8) (c : UInt8) : ofBE (l ++ [c]) = ofBE l * 256 + c.toNat := by unfold ofBE; rw [List.foldl_append]; rfl
theorem ofBE_take {l : List UInt8} {k : Nat} (h : k < l.length) : ofBE (l.take (k + 1)) = ofBE (l.take k) * 256 + l[k].toNat := by
  rw [List.take_add_one, List.getElem?_eq_getElem h]; exact ofBE_snoc _ _
theorem ofBE_takeLt (l : List UInt8) (k : Nat) (h : k ≤ l.length) : ofBE (l.take k) < 256 ^ k := by
  induction k with
  | zero => simp [ofBE]
  | succ k ih =>
    rw [ofBE_take (by omega)]
    have := ih (by omega)
    have hx := (l[k]).toNat_lt
    rw [Nat.pow_succ]
    omega
theorem ofBE_lt (l : List UInt8) : ofBE l < 256 ^ l.length := by
  have := ofBE_takeLt l l.length (Nat.le_refl _)
  rwa [List.take_length] at this
theorem ofBE_lt4 (l : List UInt8) (h : l.length = 4) : ofBE l < 4294967296 := by have := ofBE_lt l; rw [h] at this; simpa using this
theorem beN_getElem (k M i : Nat) (h : i < k) : (beN k M)[i]'(by rw [beN_len]; exact h) = UInt8.ofNat (M / 256 ^ (k - 1 - i)) := by simp [beN]
theorem ofBE_beN_take (k M j : Nat) (hj : j ≤ k) (h : M < 256 ^ k) : ofBE ((beN k M).take j) = M / 256 ^ (k - j) := by
  induction j with
  | zero => rw [List.take_zero, Nat.sub_zero, Nat.div_eq_of_lt h]; rfl
  | succ j ih =>
    rw [ofBE_take (by rw [beN_len]; omega), ih (by omega), beN_getElem k M j (by omega), UInt8.toNat_ofNat']
    have e : k - j = (k - 1 - j) + 1 := by omega
    have e2 : k - (j + 1) = k - 1 - j := by omega
    rw [e, e2, Nat.pow_succ, ← Nat.div_div_eq_div_mul]
    generalize M / 256 ^ (k - 1 - j) = q
    omega
theorem ofBE_beN (k M : Nat) (h : M < 256 ^ k) : ofBE (beN k M) = M := by
  have := ofBE_beN_take k M k (Nat.le_refl _) h
  rwa [List.take_of_length_le (by rw [beN_len]; exact Nat.le_refl _), Nat.sub_self, Nat.pow_zero, Nat.div_one] at this
/-- One more byte below: n<<8 | c. -/
theorem shl_or (n : Nat) (c : UInt8) (h : n < 72057594037927936) : Go.bits .or .u64 ((n : Int) * 256) (c.toNat : Int) = ((n * 256 + c.toNat : Nat) : Int) := by
  rw [show ((n : Int) * 256) = ((n * 256 : Nat) : Int) by omega, u64_or_nat _ _ (by omega) (by have := c.toNat_lt; omega)]
  congr 1
  have hc := c.toNat_lt
  have := Nat.shiftLeft_add_eq_or_of_lt (i := 8) (b := c.toNat) (by omega) n
  rw [Nat.shiftLeft_eq] at this
  exact this.symm
end Go.Proofs.YtimpnnhadjfijaaDoor
