/-
  Texts that are cut off.
-/
import Derived.Test.YtekdkaiammebnaaDoorCodeNumsMath
namespace Go.Proofs.CodeMath

theorem numR_short (f : Nat) : ∀ (n acc j : Nat), Fit n f → j < (numG f n).length → numR (f + 1) acc ((numG f n).take j) = none := by
  induction f with
  | zero =>
    intro n acc j hn hj
    have : j = 0 := by simpa [numG] using hj
    subst this
    rfl
  | succ f ih =>
    intro n acc j hn hj
    by_cases h128 : n < 128
    · rw [numG_small h128] at hj ⊢
      have : j = 0 := by simpa using hj
      subst this
      rfl
    · rw [numG_next (by omega)] at hj ⊢
      cases j with
      | zero => rfl
      | succ j =>
        rw [List.take_succ_cons, numR, small_toNat (by omega), if_neg (by omega), if_neg (by omega)]
        exact ih _ _ j (fit_next hn) (by simpa using hj)

theorem u64_len {l : List UInt8} (h : l.length ≤ 10000000000000) : U64 l.length := by unfold U64; omega
/-- A text that stands whole is read; one that is cut off isn't. -/
theorem readText_cut (x t : List UInt8) (j : Nat) (hx : x.length ≤ 10000000000000) :
    readText (some ((textF x ++ t).take j)) = if (textF x).length ≤ j then (x, some (t.take (j - (textF x).length))) else ([], none) := by
  have hU := u64_len hx
  unfold textF
  rcases Nat.lt_or_ge j (numF x.length).length with hj | hj
  · rw [if_neg (by rw [List.length_append]; omega)]
    have e : (numF x.length ++ x ++ t).take j = (numF x.length).take j := by
      rw [List.append_assoc, List.take_append_of_le_length (by omega)]
    have h := numR_short 9 x.length 0 j (fit_start hU) hj
    rw [e]
    simp only [readText, textR, countR]
    rw [show numF x.length = numG 9 x.length from rfl, show (10 : Nat) = 9 + 1 from rfl, h]
  · have e : (numF x.length ++ x ++ t).take j = numF x.length ++ (x ++ t).take (j - (numF x.length).length) := by
      rw [List.append_assoc, List.take_append, List.take_of_length_le hj]
    have h := numR_numG 9 x.length 0 ((x ++ t).take (j - (numF x.length).length)) (by omega) (fit_start hU) (.inr rfl)
    rw [e]
    simp only [readText, textR, countR]
    rw [show numF x.length = numG 9 x.length from rfl] at hj h ⊢
    rw [show (10 : Nat) = 9 + 1 from rfl, h]
    simp only [Nat.zero_add, Nat.sub_self, Nat.mul_zero, Nat.pow_zero, Nat.mul_one, List.length_append]
    by_cases hle : (numG 9 x.length).length + x.length ≤ j
    · rw [if_pos (by simp; omega), if_pos hle]
      simp only
      congr 1
      · rw [List.take_take, Nat.min_eq_left (by omega), List.take_left]
      · rw [List.drop_take, List.drop_left]
        congr 2
        omega
    · rw [if_neg (by simp; omega), if_neg hle]

def textsF (l : List (List UInt8)) : List UInt8 := l.flatMap textF
theorem textsF_take {l : List (List UInt8)} {k : Nat} (h : k < l.length) : textsF (l.take (k + 1)) = textsF (l.take k) ++ textF l[k] := by
  unfold textsF
  rw [List.take_succ_eq_append_getElem h, List.flatMap_append]
  simp
theorem textsF_drop {l : List (List UInt8)} {k : Nat} (h : k < l.length) : textsF (l.drop k) = textF l[k] ++ textsF (l.drop (k + 1)) := by
  unfold textsF
  rw [List.drop_eq_getElem_cons h, List.flatMap_cons]
/-- Where the k-th text ends. -/
def endF (l : List (List UInt8)) (k : Nat) : Nat := (textsF (l.take k)).length
theorem endF_succ {l : List (List UInt8)} {k : Nat} (h : k < l.length) : endF l (k + 1) = endF l k + (textF l[k]).length := by
  unfold endF; rw [textsF_take h, List.length_append]
/-- The Reader behind k texts, of what is cut off at j. -/
def cutF (l : List (List UInt8)) (j k : Nat) : Option (List UInt8) := if endF l k ≤ j then some ((textsF (l.drop k)).take (j - endF l k)) else none
theorem cutF_zero (l : List (List UInt8)) (j : Nat) : cutF l j 0 = some ((textsF l).take j) := by
  unfold cutF endF
  simp [textsF]
theorem cutF_end {l : List (List UInt8)} {j : Nat} (h : j < (textsF l).length) : cutF l j l.length = none := by
  unfold cutF endF
  rw [List.take_length, if_neg (by omega)]
theorem cutF_step {l : List (List UInt8)} {j k : Nat} (h : k < l.length) (hx : l[k].length ≤ 10000000000000) :
    readText (cutF l j k) = if endF l (k + 1) ≤ j then (l[k], cutF l j (k + 1)) else ([], cutF l j (k + 1)) := by
  have hs := endF_succ h
  unfold cutF
  by_cases h1 : endF l k ≤ j
  · rw [if_pos h1, textsF_drop h, readText_cut _ _ _ hx]
    by_cases h2 : endF l (k + 1) ≤ j
    · rw [if_pos (by omega), if_pos h2, if_pos h2, hs]
      congr 3
      omega
    · rw [if_neg (by omega), if_neg h2, if_neg h2]
  · rw [if_neg h1, if_neg (by omega), if_neg (by omega)]
    rfl
theorem cutF_len {l : List (List UInt8)} {j k : Nat} {s : List UInt8} (h : cutF l j k = some s) : s.length ≤ (textsF l).length := by
  unfold cutF at h
  split at h
  · injection h with h
    subst h
    rw [List.length_take]
    have : (textsF (l.take k) ++ textsF (l.drop k)).length = (textsF l).length := by
      unfold textsF
      rw [← List.flatMap_append, List.take_append_drop]
    rw [List.length_append] at this
    omega
  · cases h
theorem textF_len (x : List UInt8) : (textF x).length ≤ x.length + 10 := by
  unfold textF
  have := numF_len x.length
  rw [List.length_append]
  omega
theorem textF_pos (x : List UInt8) : 0 < (textF x).length := by
  unfold textF
  have := numF_pos x.length
  rw [List.length_append]
  omega
end Go.Proofs.CodeMath
