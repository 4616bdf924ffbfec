/-
  A number's bytes are read as it, and no others.
-/
import Derived.Test.YtekdkaiammebnaaDoorCodeMath
namespace Go.Proofs.CodeMath

theorem pow_step {f : Nat} (h : f + 1 ≤ 9) : 2 ^ (7 * (9 - f)) = 128 * 2 ^ (7 * (9 - (f + 1))) := by
  rw [show 7 * (9 - f) = 7 * (9 - (f + 1)) + 7 by omega, Nat.pow_add, Nat.mul_comm]
theorem small_toNat {n : Nat} (h : n < 256) : (UInt8.ofNat n).toNat = n := by rw [UInt8.toNat_ofNat']; omega
theorem numR_numG (f : Nat) : ∀ (n acc : Nat) (t : List UInt8), f ≤ 9 → Fit n f → (0 < n ∨ f = 9) → numR (f + 1) acc (numG f n ++ t) = some (acc + n * 2 ^ (7 * (9 - f)), t) := by
  induction f with
  | zero =>
    intro n acc t _ hn h0
    have h128 := fit_zero hn
    have h2 : n < 2 := by simpa [Fit] using hn
    rw [numG_small h128, List.singleton_append, numR, small_toNat (by omega), if_neg (by omega), if_pos h128, if_neg (by omega), Nat.mod_eq_of_lt h128]
  | succ f ih =>
    intro n acc t hf hn h0
    by_cases h128 : n < 128
    · rw [numG_small h128, List.singleton_append, numR, small_toNat (by omega), if_neg (by omega), if_pos h128, if_neg (by omega), Nat.mod_eq_of_lt h128]
    · rw [numG_next (by omega), List.cons_append, numR, small_toNat (by omega), if_neg (by omega), if_neg (by omega), show (n % 128 + 128) % 128 = n % 128 by omega]
      rw [ih (n / 128) _ t (by omega) (fit_next hn) (.inl (by omega))]
      congr 2
      rw [pow_step hf, Nat.add_assoc, ← Nat.mul_assoc, ← Nat.add_mul]
      congr 2
      omega
theorem read_numF {n : Nat} (hn : U64 n) : readNum (some (numF n)) = (n, some []) := by
  have := numR_numG 9 n 0 [] (by omega) (fit_start hn) (.inr rfl)
  simp only [readNum, numF]
  rw [show numG 9 n = numG 9 n ++ [] by simp, this]
  simp

/-- The last byte, its upper bit set. -/
def spoil (l : List UInt8) : List UInt8 := l.set (l.length - 1) (UInt8.ofNat (l.getLast?.getD 0 |>.toNat |> (· % 128 + 128)))
theorem spoil_one (x : UInt8) : spoil [x] = [UInt8.ofNat (x.toNat % 128 + 128)] := rfl
theorem spoil_cons (x : UInt8) {l : List UInt8} (h : l ≠ []) : spoil (x :: l) = x :: spoil l := by
  cases l with
  | nil => exact absurd rfl h
  | cons y l =>
    unfold spoil
    simp
theorem numG_ne (f n : Nat) : numG f n ≠ [] := by
  cases f with
  | zero => simp [numG]
  | succ f => unfold numG; split <;> simp
theorem numR_spoil (f : Nat) : ∀ (n acc : Nat) (z : List UInt8), f ≤ 9 → Fit n f → numR (f + 1) acc (spoil (numG f n) ++ 0 :: z) = none := by
  induction f with
  | zero =>
    intro n acc z _ hn
    have h128 := fit_zero hn
    rw [numG_small h128, spoil_one, List.singleton_append, numR, small_toNat (by omega), small_toNat (by omega), if_pos ⟨rfl, by omega⟩]
  | succ f ih =>
    intro n acc z hf hn
    by_cases h128 : n < 128
    · rw [numG_small h128, spoil_one, List.singleton_append, numR, small_toNat (by omega), small_toNat (by omega), if_neg (by omega), if_neg (by omega), numR, if_neg (by simp), if_pos (by decide), if_pos ⟨rfl, by omega⟩]
    · rw [numG_next (by omega), spoil_cons _ (numG_ne _ _), List.cons_append, numR, small_toNat (by omega), if_neg (by omega), if_neg (by omega)]
      exact ih _ _ z (by omega) (fit_next hn)
theorem read_spoil {n : Nat} (hn : U64 n) (k : Nat) : readNum (some (spoil (numF n) ++ List.replicate (k + 1) 0)) = (0, none) := by
  have := numR_spoil 9 n 0 (List.replicate k 0) (by omega) (fit_start hn)
  simp only [readNum, numF, List.replicate_succ, this]
/-- As short as may be. -/
theorem numG_short (f : Nat) : ∀ n : Nat, Fit n f → n / 2 ^ (7 * ((numG f n).length - 1)) < 128 ∧ ((numG f n).length = 1 ∨ 0 < n / 2 ^ (7 * ((numG f n).length - 1))) := by
  induction f with
  | zero =>
    intro n hn
    rw [numG_small (fit_zero hn)]
    exact ⟨by simpa using fit_zero hn, .inl rfl⟩
  | succ f ih =>
    intro n hn
    by_cases h128 : n < 128
    · rw [numG_small h128]
      exact ⟨by simpa using h128, .inl rfl⟩
    · have hl : 0 < (numG f (n / 128)).length := List.length_pos_iff.2 (numG_ne _ _)
      rw [numG_next (by omega), List.length_cons, Nat.add_sub_cancel]
      have e : 2 ^ (7 * (numG f (n / 128)).length) = 128 * 2 ^ (7 * ((numG f (n / 128)).length - 1)) := by
        rw [show 7 * (numG f (n / 128)).length = 7 + 7 * ((numG f (n / 128)).length - 1) by omega, Nat.pow_add]
      rw [e, ← Nat.div_div_eq_div_mul]
      have h := ih _ (fit_next hn)
      refine ⟨h.1, .inr ?_⟩
      rcases h.2 with h1 | h1
      · rw [h1]; simp; omega
      · exact h1
theorem numF_short {n : Nat} (hn : U64 n) : n / 2 ^ (7 * ((numF n).length - 1)) < 128 ∧ ((numF n).length = 1 ∨ 0 < n / 2 ^ (7 * ((numF n).length - 1))) := numG_short 9 n (fit_start hn)
theorem numF_pos (n : Nat) : 0 < (numF n).length := List.length_pos_iff.2 (numG_ne _ _)
theorem getLast_at {l : List UInt8} (h : 0 < l.length) : l.getLast?.getD 0 = l[l.length - 1] := by
  rw [List.getLast?_eq_getElem?, List.getElem?_eq_getElem (by omega)]; rfl
end Go.Proofs.CodeMath
