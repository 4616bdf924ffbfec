/-
  A log's ring: plain mathematics, and its cells.
-/
import Derived.Test.YtkbcklaloblmeaaGreatDoorMg1
import Derived.Test.YtkbcklaloblmeaaGreatDoorMg3
namespace Go.Proofs.YtkbcklaloblmeaaGreatDoor
open Go.RowKit LineMath

theorem rowSet {α : Type} (f : α → List Value) (c : Nat) (hf : ∀ a, (f a).length = c) : ∀ (R : List α) (k : Nat) (l : α), k < R.length → (R.set k l).flatMap f = (R.flatMap f).take (c * k) ++ f l ++ (R.flatMap f).drop (c * k + c)
  | [], _, _, h => absurd h (Nat.not_lt_zero _)
  | a :: R, 0, l, _ => by
    have := hf a
    simp only [List.set_cons_zero, List.flatMap_cons, Nat.mul_zero, List.take_zero, List.nil_append, Nat.zero_add]
    rw [List.drop_left' this]
  | a :: R, k + 1, l, h => by
    have ih := rowSet f c hf R k l (by simpa using h)
    have := hf a
    simp only [List.set_cons_succ, List.flatMap_cons, ih]
    have e1 := List.take_length_add_append (l₁ := f a) (l₂ := R.flatMap f) (i := c * k)
    have e2 := List.drop_length_add_append (l₁ := f a) (l₂ := R.flatMap f) (i := c * k + c)
    rw [this] at e1 e2
    rw [show c * (k + 1) = c + c * k by rw [Nat.mul_succ]; omega, e1, show c + c * k + c = c + (c * k + c) by omega, e2]
    simp
theorem set_seven (L : List Value) (o : Nat) (h : o + 7 ≤ L.length) (v0 v1 v2 v3 v4 v5 v6 : Value) :
    ((((((L.set o v0).set (o + 1) v1).set (o + 2) v2).set (o + 3) v3).set (o + 4) v4).set (o + 5) v5).set (o + 6) v6 = L.take o ++ [v0, v1, v2, v3, v4, v5, v6] ++ L.drop (o + 7) := by
  apply List.ext_getElem?
  intro j
  simp only [List.getElem?_set, List.length_set]
  by_cases h1 : j < o
  · rw [List.append_assoc, List.getElem?_append_left (by rw [List.length_take]; omega), List.getElem?_take_of_lt h1]
    repeat rw [if_neg (by omega)]
  · by_cases h2 : j < o + 7
    · obtain ⟨i, rfl⟩ : ∃ i, j = o + i := ⟨j - o, by omega⟩
      rw [List.getElem?_append_left (by rw [List.length_append, List.length_take]; simp; omega), List.getElem?_append_right (by rw [List.length_take]; omega), List.length_take, show o + i - min o L.length = i by omega]
      match i, (by omega : i < 7) with
      | 0, _ => simp; omega
      | 1, _ => simp; omega
      | 2, _ => simp; omega
      | 3, _ => simp; omega
      | 4, _ => simp; omega
      | 5, _ => simp; omega
      | 6, _ => simp; omega
    · rw [List.getElem?_append_right (by rw [List.length_append, List.length_take]; simp; omega), List.length_append, List.length_take, List.getElem?_drop]
      repeat rw [if_neg (by omega)]
      congr 1
      simp; omega
/-- A line's cells. -/
def cellsV (l : LineV) : List Value := [.int .i64 l.time, .int .i64 l.how, .string ⟨l.method.toArray⟩, .string ⟨l.host.toArray⟩, .string ⟨l.target.toArray⟩, .int .i64 l.status, .int .i64 l.size]
def rowV (R : List LineV) : List Value := R.flatMap cellsV
theorem rowV_len (R : List LineV) : (rowV R).length = 7 * R.length := by
  induction R with
  | nil => rfl
  | cons a R ih =>
    unfold rowV at ih ⊢
    rw [List.flatMap_cons, List.length_append, ih, List.length_cons]
    show 7 + _ = _
    omega
theorem rowV_app (a b : List LineV) : rowV (a ++ b) = rowV a ++ rowV b := by unfold rowV; simp
theorem rowV_set (R : List LineV) (k : Nat) (l : LineV) (h : k < R.length) : ((((((((rowV R).set (7 * k) (.int .i64 l.time)).set (7 * k + 1) (.int .i64 l.how)).set (7 * k + 2) (.string ⟨l.method.toArray⟩)).set (7 * k + 3) (.string ⟨l.host.toArray⟩)).set (7 * k + 4) (.string ⟨l.target.toArray⟩)).set (7 * k + 5) (.int .i64 l.status)).set (7 * k + 6) (.int .i64 l.size)) = rowV (R.set k l) := by
  rw [set_seven _ _ (by rw [rowV_len]; omega)]
  unfold rowV
  rw [rowSet cellsV 7 (fun _ => rfl) R k l h]
  rfl
theorem rowV_get (R : List LineV) (k j : Nat) (h : k < R.length) (hj : j < 7) : (rowV R)[7 * k + j]? = (cellsV R[k])[j]? := by
  induction R generalizing k with
  | nil => exact absurd h (Nat.not_lt_zero _)
  | cons a R ih =>
    have e : rowV (a :: R) = cellsV a ++ rowV R := rfl
    cases k with
    | zero => rw [e, List.getElem?_append_left (by show _ < 7; omega)]; simp
    | succ k =>
      rw [e, List.getElem?_append_right (by show 7 ≤ _; omega), show 7 * (k + 1) + j - (cellsV a).length = 7 * k + j by show 7 * (k + 1) + j - 7 = _; omega, ih k (by simpa using h)]
      simp
/-- A log: its ring, where the next line goes, how many there are. -/
def LogAt (B : Nat) (w : World) (p : Nat) (R : List LineV) (next n : Nat) : Prop :=
  ∃ q, (B ≤ p ∧ B ≤ q) ∧ w.heap[p]? = some (.cells #[.slice (some ⟨q, 0, none⟩) R.length R.length, .int .i64 next, .int .i64 n] 77 (0, 0)) ∧ w.heap[q]? = some (.cells (rowV R).toArray 23 (0, 0)) ∧ p ≠ q
/-- The last m lines that a log has, the eldest first. -/
def lastsL (R : List LineV) (next m : Nat) : List LineV := if m ≤ next then (R.take next).drop (next - m) else R.drop (R.length + next - m) ++ R.take next
/-- What a ring says: all that was added, as far as there is room. -/
structure Rings (all R : List LineV) (next n : Nat) : Prop where
  num : n = min all.length R.length
  nxt : next = all.length % R.length
  at' : ∀ i, i < all.length → all.length - n ≤ i → R[i % R.length]? = all[i]?
theorem Rings.start (M : Nat) (z : LineV) : Rings [] (List.replicate M z) 0 0 := ⟨by simp, by simp, fun i h => absurd h (Nat.not_lt_zero _)⟩
theorem Rings.next_lt {all R : List LineV} {next n : Nat} (h : Rings all R next n) (h0 : 0 < R.length) : next < R.length := by rw [h.nxt]; exact Nat.mod_lt _ h0
theorem Rings.add {all R : List LineV} {next n : Nat} (h : Rings all R next n) (h0 : 0 < R.length) (l : LineV) : Rings (all ++ [l]) (R.set next l) ((next + 1) % R.length) (min (n + 1) R.length) := by
  have hn := h.num
  have hx := h.nxt
  refine ⟨?_, ?_, ?_⟩
  · rw [List.length_append, List.length_set, List.length_singleton]; omega
  · rw [List.length_append, List.length_set, List.length_singleton, hx, Nat.mod_add_mod]
  · intro i hi hl
    rw [List.length_append, List.length_singleton] at hi hl
    rw [List.length_set, List.getElem?_set]
    by_cases e : i = all.length
    · subst e
      rw [if_pos hx, if_pos (by rw [hx]; exact Nat.mod_lt _ h0)]
      simp
    · have hne : ¬ next = i % R.length := by
        rw [hx]
        intro e2
        have h1 : i < all.length := by omega
        have h2 : all.length < i + R.length := by omega
        have e3 := Nat.div_add_mod all.length R.length
        have e4 := Nat.div_add_mod i R.length
        have e5 : all.length / R.length = i / R.length ∨ all.length / R.length ≥ i / R.length + 1 := by
          have := Nat.div_le_div_right (c := R.length) (Nat.le_of_lt h1)
          omega
        rcases e5 with e5 | e5
        · rw [e5] at e3; omega
        · have := Nat.mul_le_mul_left R.length e5
          rw [Nat.mul_add, Nat.mul_one] at this
          omega
      rw [if_neg hne, h.at' i (by omega) (by omega), List.getElem?_append_left (by omega)]
theorem Rings.lasts {all R : List LineV} {next n : Nat} (h : Rings all R next n) (m : Nat) (hm : m ≤ n) : lastsL R next m = all.drop (all.length - m) := by
  have hn := h.num
  have hx := h.nxt
  by_cases hR : R.length = 0
  · have : m = 0 := by omega
    subst this
    have : R = [] := List.eq_nil_of_length_eq_zero hR
    unfold lastsL
    rw [if_pos (Nat.zero_le _), this]
    simp
  · have hlt := h.next_lt (by omega)
    have e3 := Nat.div_add_mod all.length R.length
    obtain ⟨q, hq⟩ : ∃ q, all.length / R.length = q := ⟨_, rfl⟩
    rw [hq, ← hx] at e3
    apply List.ext_getElem?
    intro k
    by_cases hk : k < m
    · rw [List.getElem?_drop, ← h.at' (all.length - m + k) (by omega) (by omega)]
      unfold lastsL
      by_cases h1 : m ≤ next
      · rw [if_pos h1, List.getElem?_drop, List.getElem?_take_of_lt (by omega)]
        congr 1
        rw [show all.length - m + k = (next - m + k) + R.length * q by omega, Nat.add_mul_mod_self_left, Nat.mod_eq_of_lt (by omega)]
      · rw [if_neg h1]
        have hq1 : 1 ≤ q := by
          rcases Nat.eq_zero_or_pos q with e | e
          · rw [e, Nat.mul_zero] at e3; omega
          · exact e
        by_cases h2 : k < m - next
        · rw [List.getElem?_append_left (by rw [List.length_drop]; omega), List.getElem?_drop]
          congr 1
          obtain ⟨p, rfl⟩ : ∃ p, q = p + 1 := ⟨q - 1, by omega⟩
          rw [Nat.mul_add, Nat.mul_one] at e3
          rw [show all.length - m + k = (R.length + next - m + k) + R.length * p by omega, Nat.add_mul_mod_self_left, Nat.mod_eq_of_lt (by omega)]
        · rw [List.getElem?_append_right (by rw [List.length_drop]; omega), List.length_drop, List.getElem?_take_of_lt (by omega)]
          congr 1
          rw [show all.length - m + k = (k - (m - next)) + R.length * q by omega, Nat.add_mul_mod_self_left, Nat.mod_eq_of_lt (by omega)]
          omega
    · have hl : (lastsL R next m).length ≤ k := by
        unfold lastsL
        by_cases h1 : m ≤ next
        · rw [if_pos h1, List.length_drop, List.length_take]; omega
        · rw [if_neg h1, List.length_append, List.length_drop, List.length_take]; omega
      have hr : (all.drop (all.length - m)).length ≤ k := by rw [List.length_drop]; omega
      rw [List.getElem?_eq_none hl, List.getElem?_eq_none hr]
end Go.Proofs.YtkbcklaloblmeaaGreatDoor
