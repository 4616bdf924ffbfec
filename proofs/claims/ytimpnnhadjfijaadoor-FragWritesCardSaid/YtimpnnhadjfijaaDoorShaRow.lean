/-
  The schedule's row of 64 words: how many are written, the rest nought.
-/
import Derived.Test.YtimpnnhadjfijaaDoorShaMath
namespace Go.Proofs.YtimpnnhadjfijaaDoor

def v32 (x : UInt32) : Value := .int .u32 x.toNat
/-- The first words, then noughts, 64 in all. -/
def rowW (l : List UInt32) : Array Value := (l.map v32 ++ List.replicate (64 - l.length) (Value.int .u32 0)).toArray
theorem rowW_size (l : List UInt32) (h : l.length ≤ 64) : (rowW l).size = 64 := by simp [rowW]; omega
theorem rowW_get (l : List UInt32) (i : Nat) (h : i < l.length) : (rowW l)[i]? = some (.int .u32 (l.getD i 0).toNat) := by
  unfold rowW
  rw [List.getElem?_toArray, List.getElem?_append_left (by simpa using h), List.getElem?_map, List.getElem?_eq_getElem h, List.getD_eq_getElem?_getD, List.getElem?_eq_getElem h]; rfl
theorem rowW_set (l : List UInt32) (x : UInt32) (h : l.length < 64) : (rowW l).setIfInBounds l.length (.int .u32 x.toNat) = rowW (l ++ [x]) := by
  apply Array.ext_getElem?
  intro i
  obtain ⟨k, hk⟩ : ∃ k, 64 - l.length = k + 1 := ⟨63 - l.length, by omega⟩
  have hk2 : 64 - (l ++ [x]).length = k := by simp; omega
  unfold rowW
  rw [hk, hk2, Array.getElem?_setIfInBounds, List.getElem?_toArray, List.getElem?_toArray]
  by_cases hi : i < l.length
  · rw [if_neg (by omega), List.getElem?_append_left (by simpa using hi), List.map_append, List.append_assoc, List.getElem?_append_left (by simpa using hi)]
  · by_cases he : l.length = i
    · subst he
      rw [if_pos rfl]
      simp [List.replicate_succ, v32]
    · rw [if_neg he, List.map_append, List.append_assoc, List.getElem?_append_right (by simp; omega), List.getElem?_append_right (by simp; omega), List.length_map]
      obtain ⟨j, hj⟩ : ∃ j, i - l.length = j + 1 := ⟨i - l.length - 1, by omega⟩
      rw [hj]
      simp [List.replicate_succ]
theorem rowW_zero (l : List UInt32) (i : Nat) (h : l.length ≤ i) (h2 : i < 64) : (rowW l)[i]? = some (.int .u32 0) := by
  unfold rowW
  rw [List.getElem?_toArray, List.getElem?_append_right (by simpa using h), List.length_map, List.getElem?_replicate, if_pos (by omega)]
theorem rowW_nil : rowW [] = (List.replicate 64 (Value.int .u32 0)).toArray := rfl
end Go.Proofs.YtimpnnhadjfijaaDoor
