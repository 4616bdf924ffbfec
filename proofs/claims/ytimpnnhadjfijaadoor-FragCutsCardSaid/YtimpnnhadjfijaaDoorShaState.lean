/-
  The eight words of the state, where they lie, and the rounds one by one.
-/
import Derived.Test.YtimpnnhadjfijaaDoorShaRow
import Derived.Test.YtimpnnhadjfijaaDoorShaMade
namespace Go.Proofs.YtimpnnhadjfijaaDoor

def wl (s : S8) : List UInt32 := [s.a, s.b, s.c, s.d, s.e, s.f, s.g, s.h]
def stV (s : S8) : List Value := (wl s).map v32
/-- The state while it is added to: the first words done. -/
def mixedL (k : Nat) (s t : S8) : List UInt32 := (wl (addS s t)).take k ++ (wl s).drop k
def mixedV (k : Nat) (s t : S8) : List Value := (mixedL k s t).map v32
theorem mixed_none (s t : S8) : mixedV 0 s t = stV s := by simp [mixedV, mixedL, stV]
theorem mixed_all (s t : S8) : mixedV 8 s t = stV (addS s t) := by simp [mixedV, mixedL, stV, wl]
theorem sum_cell (d l : Int) (z : Value) (made st : List Value) (hm : made.length = 72) (i : Nat) : (sumCells d l z made st)[75 + i]? = st[i]? := by
  unfold sumCells onceV
  rw [List.getElem?_toArray, show 75 + i = (72 + i) + 1 + 1 + 1 by omega, List.cons_append, List.cons_append, List.cons_append, List.nil_append, List.getElem?_cons_succ, List.getElem?_cons_succ, List.getElem?_cons_succ, List.getElem?_append_right (by omega), hm, Nat.add_sub_cancel_left]
theorem sum_set (d l : Int) (z : Value) (made st : List Value) (hm : made.length = 72) (i : Nat) (v : Value) : (sumCells d l z made st).setIfInBounds (75 + i) v = sumCells d l z made (st.set i v) := by
  unfold sumCells onceV
  rw [List.setIfInBounds_toArray, show 75 + i = (72 + i) + 1 + 1 + 1 by omega, List.cons_append, List.cons_append, List.cons_append, List.nil_append, List.set_cons_succ, List.set_cons_succ, List.set_cons_succ, List.set_append, if_neg (by omega), hm, Nat.add_sub_cancel_left]
  rfl
theorem roundK_len : roundK.length = 64 := by kernel_rfl
theorem madeV_words : madeV = firstV.toList ++ roundK.map v32 := by kernel_rfl
theorem sum_round (z : Value) (st : List Value) (i : Nat) (h : i < 64) : (sumCells 1 0 z madeV st)[11 + i]? = some (.int .u32 (roundK.getD i 0).toNat) := by
  unfold sumCells onceV
  have hf : firstV.toList.length = 8 := by kernel_rfl
  have hr : i < roundK.length := by rw [roundK_len]; exact h
  rw [List.getElem?_toArray, show 11 + i = (8 + i) + 1 + 1 + 1 by omega, List.cons_append, List.cons_append, List.cons_append, List.nil_append, List.getElem?_cons_succ, List.getElem?_cons_succ, List.getElem?_cons_succ, madeV_words, List.append_assoc, List.getElem?_append_right (by omega), hf, Nat.add_sub_cancel_left, List.getElem?_append_left (by rw [List.length_map]; exact hr), List.getElem?_map, List.getElem?_eq_getElem hr, List.getD_eq_getElem?_getD, List.getElem?_eq_getElem hr]
  rfl
theorem mixed_get (k : Nat) (h : k < 8) (s t : S8) : (mixedV k s t)[k]? = some (.int .u32 ((wl s).getD k 0).toNat) := by
  obtain rfl | rfl | rfl | rfl | rfl | rfl | rfl | rfl : k = 0 ∨ k = 1 ∨ k = 2 ∨ k = 3 ∨ k = 4 ∨ k = 5 ∨ k = 6 ∨ k = 7 := by omega
  all_goals rfl
theorem mixed_set (k : Nat) (h : k < 8) (s t : S8) : (mixedV k s t).set k (.int .u32 (addW ((wl s).getD k 0) ((wl t).getD k 0)).toNat) = mixedV (k + 1) s t := by
  obtain rfl | rfl | rfl | rfl | rfl | rfl | rfl | rfl : k = 0 ∨ k = 1 ∨ k = 2 ∨ k = 3 ∨ k = 4 ∨ k = 5 ∨ k = 6 ∨ k = 7 := by omega
  all_goals rfl
theorem stV_get (k : Nat) (h : k < 8) (t : S8) : (stV t)[k]? = some (.int .u32 ((wl t).getD k 0).toNat) := by
  obtain rfl | rfl | rfl | rfl | rfl | rfl | rfl | rfl : k = 0 ∨ k = 1 ∨ k = 2 ∨ k = 3 ∨ k = 4 ∨ k = 5 ∨ k = 6 ∨ k = 7 := by omega
  all_goals rfl
/-- The rounds, one by one. -/
def runS (W : List UInt32) (s : S8) : Nat → S8
  | 0 => s
  | n + 1 => stepS (runS W s n) (roundK.getD n 0) (W.getD n 0)
theorem roundsS_snoc : ∀ (ks ws : List UInt32) (s : S8) (k w : UInt32), ks.length = ws.length → roundsS s (ks ++ [k]) (ws ++ [w]) = stepS (roundsS s ks ws) k w
  | [], [], _, _, _, _ => rfl
  | a :: ks, b :: ws, s, k, w, h => by
    rw [List.cons_append, List.cons_append, roundsS, roundsS]
    exact roundsS_snoc ks ws _ k w (by simpa using h)
  | [], _ :: _, _, _, _, h => by simp at h
  | _ :: _, [], _, _, _, h => by simp at h
theorem take_snoc (l : List UInt32) (n : Nat) (h : n < l.length) : l.take (n + 1) = l.take n ++ [l.getD n 0] := by
  rw [List.take_add_one, List.getElem?_eq_getElem h, List.getD_eq_getElem?_getD, List.getElem?_eq_getElem h]; rfl
theorem runS_take (W : List UInt32) (hW : W.length = 64) (s : S8) : ∀ n, n ≤ 64 → runS W s n = roundsS s (roundK.take n) (W.take n)
  | 0, _ => by simp [runS, roundsS]
  | n + 1, h => by
    rw [runS, runS_take W hW s n (by omega), take_snoc roundK n (by rw [roundK_len]; omega), take_snoc W n (by omega), roundsS_snoc _ _ _ _ _ (by rw [List.length_take, List.length_take, roundK_len, hW])]
theorem runS_all (W : List UInt32) (hW : W.length = 64) (s : S8) : runS W s 64 = roundsS s roundK W := by
  rw [runS_take W hW s 64 (by omega), List.take_of_length_le (by rw [roundK_len]; omega), List.take_of_length_le (by omega)]
theorem index_words (cs : Array Value) (i : Nat) (v : Value) (h : i < 8) (hv : cs[i]? = some v) (w : World) : (Instr.index 79 (.agg cs) (.int .i64 (i : Int))).run Tryd.prog w = .ok v w := by
  have hb : (0 : Int) ≤ (i : Int) ∧ (i : Int) < 8 := by omega
  simp [Instr.index, run_underlying Tryd.underlying79, asIntOf, hb, go_sem, hv]
  intro h8; omega
theorem notW_walk (x : UInt32) : Go.bits .xor .u32 (if IntKind.u32.signed = true then -1 else IntKind.u32.max) (x.toNat : Int) = ((notW x).toNat : Int) := by
  have h : (if IntKind.u32.signed = true then -1 else IntKind.u32.max) = (4294967295 : Int) := by decide
  rw [h]; exact notW_int x
end Go.Proofs.YtimpnnhadjfijaaDoor
