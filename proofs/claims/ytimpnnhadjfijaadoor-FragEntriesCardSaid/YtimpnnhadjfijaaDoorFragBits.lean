/-
  The top bit of a turn, and the low bits of a tag.
-/
import Derived.Test.YtimpnnhadjfijaaDoorFragMath
namespace Go.Proofs.YtimpnnhadjfijaaDoor
open Go.RowKit

def orTop (n : Nat) : Nat := if 9223372036854775808 ≤ n then n else n + 9223372036854775808
theorem and_top (n : Nat) (h : n < 2 ^ 64) : n &&& 2 ^ 63 = if 2 ^ 63 ≤ n then 2 ^ 63 else 0 := by
  apply Nat.eq_of_testBit_eq
  intro i
  rw [Nat.testBit_and, Nat.testBit_two_pow]
  by_cases hi : 63 = i
  · subst hi
    by_cases hn : 2 ^ 63 ≤ n
    · have e : n.testBit 63 = true := by
        rw [Nat.testBit_eq_decide_div_mod_eq]
        simp only [decide_eq_true_eq]
        omega
      rw [if_pos hn, e, Nat.testBit_two_pow_self]
      rfl
    · rw [if_neg hn, Nat.testBit_lt_two_pow (by omega), Nat.zero_testBit]
      rfl
  · rw [decide_eq_false hi, Bool.and_false]
    split
    · rw [Nat.testBit_two_pow_of_ne hi]
    · rw [Nat.zero_testBit]
theorem top_and {n : Nat} (h : n < 18446744073709551616) : Go.bits .and .u64 (n : Int) 9223372036854775808 = if 9223372036854775808 ≤ n then 9223372036854775808 else 0 := by
  have e := and_top n (by omega)
  have e2 : (2 ^ 63 : Nat) = 9223372036854775808 := by decide
  rw [e2] at e
  rw [show (9223372036854775808 : Int) = ((9223372036854775808 : Nat) : Int) from rfl, u64_and_nat n _ h (by omega), e]
  split <;> rfl
theorem top_or {n : Nat} (h : n < 18446744073709551616) : Go.bits .or .u64 (n : Int) 9223372036854775808 = (orTop n : Nat) := by
  rw [show (9223372036854775808 : Int) = ((9223372036854775808 : Nat) : Int) from rfl, u64_or_nat n _ h (by omega)]
  congr 1
  have e2 : (2 ^ 63 : Nat) = 9223372036854775808 := by decide
  have hlow : ∀ m : Nat, m < 9223372036854775808 → m ||| 9223372036854775808 = m + 9223372036854775808 := fun m hm => by
    have := Nat.or_two_pow_eq_add_of_lt (a := m) (n := 63) (by rw [e2]; exact hm)
    rwa [e2] at this
  unfold orTop
  by_cases hn : 9223372036854775808 ≤ n
  · rw [if_pos hn]
    obtain ⟨m, rfl⟩ : ∃ m, n = m + 9223372036854775808 := ⟨n - 9223372036854775808, by omega⟩
    rw [← hlow m (by omega), Nat.or_assoc, Nat.or_self]
  · rw [if_neg hn]
    exact hlow n (by omega)
theorem top_andNot {n : Nat} (h : n < 18446744073709551616) : Go.bits .andNot .u64 (n : Int) 9223372036854775808 = (n % 9223372036854775808 : Nat) := by
  rw [show (9223372036854775808 : Int) = ((9223372036854775808 : Nat) : Int) from rfl, u64_andNot_nat n _ h (by omega)]
  congr 1
  exact Nat.and_two_pow_sub_one_eq_mod n 63
theorem tag_and {t : Nat} (h : t < 65536) : Go.bits .and .u16 (t : Int) 4095 = (t % 4096 : Nat) := by
  rw [show (4095 : Int) = ((4095 : Nat) : Int) from rfl, u16_and_nat t _ h (by omega)]
  congr 1
  exact Nat.and_two_pow_sub_one_eq_mod t 12
end Go.Proofs.YtimpnnhadjfijaaDoor
