/-
  Counters: six ways, six classes, thirty-two sizes, the bytes: forty-five numbers; what is done with them.
-/
import Derived.Test.YtdppmmoidofgmaaDoorBytes2
import Derived.Lib.BitFns
import Derived.Lib.ItoaNum
namespace Go.Proofs.YtdppmmoidofgmaaDoor
open Go.RowKit

abbrev Cs := List Int
def gI (L : Cs) (k : Nat) : Int := L.getD k 0
def bump (L : Cs) (k : Nat) (d : Int) : Cs := L.set k (gI L k + d)
/-- How many binary digits. -/
def bitsN (n : Nat) : Nat := Lib.bitLen n
def sizeF (n : Int) : Int := min (max n 0) 1073741824
def wayF (L : Cs) (how : Int) : Cs := if 0 ≤ how ∧ how < 6 then bump L how.toNat 1 else L
def clsF (L : Cs) (status : Int) : Cs := if 1 ≤ status.tdiv 100 ∧ status.tdiv 100 < 6 then bump L (6 + (status.tdiv 100).toNat) 1 else L
def addF (L : Cs) (how status size : Int) : Cs := bump (bump (clsF (wayF L how) status) 44 (sizeF size)) (12 + bitsN (sizeF size).toNat) 1
/-- Forty-five numbers, none below nought, none above M. -/
structure Fair (L : Cs) (M : Int) : Prop where
  len : L.length = 45
  pos : ∀ k, 0 ≤ gI L k ∧ gI L k ≤ M
theorem gI_bump {L : Cs} {k : Nat} (hk : k < L.length) (d : Int) (j : Nat) : gI (bump L k d) j = if j = k then gI L k + d else gI L j := by
  unfold gI bump
  by_cases h : j = k
  · subst h
    rw [if_pos rfl, List.getD_eq_getElem?_getD, List.getElem?_set_self hk]
    rfl
  · rw [if_neg h, List.getD_eq_getElem?_getD, List.getElem?_set_ne (fun e => h e.symm), ← List.getD_eq_getElem?_getD]
theorem bump_len (L : Cs) (k : Nat) (d : Int) : (bump L k d).length = L.length := by unfold bump; simp
theorem Fair.bump {L : Cs} {M d : Int} (h : Fair L M) (k : Nat) (hk : k < 45) (h0 : 0 ≤ d) : Fair (bump L k d) (M + d) := by
  refine ⟨by rw [bump_len, h.len], fun j => ?_⟩
  rw [gI_bump (by rw [h.len]; exact hk)]
  have h1 := h.pos j
  have h2 := h.pos k
  split <;> omega
theorem Fair.mono {L : Cs} {M N : Int} (h : Fair L M) (hn : M ≤ N) : Fair L N := ⟨h.len, fun k => by have := h.pos k; omega⟩
theorem bitsN_spec {n : Nat} (h : n < 2 ^ 64) : n < 2 ^ bitsN n ∧ (n ≠ 0 → 2 ^ (bitsN n - 1) ≤ n) := by
  by_cases h0 : n = 0
  · subst h0
    exact ⟨by decide, fun h => absurd rfl h⟩
  · have hb := Lib.bitLenAux_bounds 64 n h h0
    exact ⟨hb.2.2, fun _ => hb.2.1⟩
theorem bitsN_le {n : Nat} (h : n ≤ 1073741824) : bitsN n ≤ 31 := by
  have hs := bitsN_spec (n := n) (by omega)
  rcases Nat.lt_or_ge 31 (bitsN n) with h1 | h1
  · exfalso
    by_cases h0 : n = 0
    · subst h0
      exact absurd h1 (by decide)
    · have h2 := hs.2 h0
      have h3 : 2 ^ 31 ≤ 2 ^ (bitsN n - 1) := Nat.pow_le_pow_right (by decide) (by omega)
      omega
  · exact h1
theorem sizeF_bd (n : Int) : 0 ≤ sizeF n ∧ sizeF n ≤ 1073741824 := by unfold sizeF; omega
theorem sizeF_bits (n : Int) : bitsN (sizeF n).toNat ≤ 31 := bitsN_le (by have := sizeF_bd n; omega)
theorem Fair.way {L : Cs} {M : Int} (h : Fair L M) (how : Int) : Fair (wayF L how) (M + 1) := by
  unfold wayF
  split
  · exact h.bump _ (by omega) (by omega)
  · exact h.mono (by omega)
theorem Fair.cls {L : Cs} {M : Int} (h : Fair L M) (status : Int) : Fair (clsF L status) (M + 1) := by
  unfold clsF
  split
  · exact h.bump _ (by omega) (by omega)
  · exact h.mono (by omega)
theorem Fair.add {L : Cs} {M : Int} (h : Fair L M) (how status size : Int) : Fair (addF L how status size) (M + 1073741827) := by
  have hb := sizeF_bd size
  have hk := sizeF_bits size
  have h3 := (((h.way how).cls status).bump 44 (by omega) hb.1).bump (12 + bitsN (sizeF size).toNat) (d := 1) (by omega) (by omega)
  exact h3.mono (by omega)
def zeroC : Cs := List.replicate 45 0
theorem zero_fair : Fair zeroC 0 := by
  refine ⟨rfl, fun k => ?_⟩
  unfold gI zeroC
  rw [List.getD_eq_getElem?_getD, List.getElem?_replicate]
  split <;> simp
def mergeF (L R : Cs) : Cs := List.zipWith (· + ·) L R
theorem gI_merge {L R : Cs} (hl : L.length = 45) (hr : R.length = 45) (k : Nat) : gI (mergeF L R) k = gI L k + gI R k := by
  unfold gI mergeF
  rw [List.getD_eq_getElem?_getD, List.getD_eq_getElem?_getD, List.getD_eq_getElem?_getD, List.getElem?_zipWith]
  by_cases hk : k < 45
  · rw [List.getElem?_eq_getElem (by omega), List.getElem?_eq_getElem (by omega)]
    rfl
  · rw [List.getElem?_eq_none (by omega), List.getElem?_eq_none (by omega)]
    rfl
theorem Fair.merge {L R : Cs} {M N : Int} (h : Fair L M) (h' : Fair R N) : Fair (mergeF L R) (M + N) := by
  refine ⟨by unfold mergeF; rw [List.length_zipWith, h.len, h'.len]; rfl, fun k => ?_⟩
  rw [gI_merge h.len h'.len]
  have := h.pos k
  have := h'.pos k
  omega
/-- The cells of counters. -/
def cellsC (L : Cs) : List Value := L.map fun n => .int .i64 n
theorem cellsC_at {L : Cs} {k : Nat} (h : k < L.length) : (cellsC L)[k]? = some (.int .i64 (gI L k)) := by
  unfold cellsC gI
  rw [List.getElem?_map, List.getElem?_eq_getElem h, List.getD_eq_getElem?_getD, List.getElem?_eq_getElem h]
  rfl
theorem cellsC_bump (L : Cs) (k : Nat) (d : Int) : cellsC (bump L k d) = (cellsC L).set k (.int .i64 (gI L k + d)) := by
  unfold cellsC bump
  rw [List.map_set]
/-- Counters in memory: the block p, of a type of forty-five cells. -/
def StatAt (t : TypeId) (p : Nat) (L : Cs) (w : World) : Prop := w.heap[p]? = some (.cells (cellsC L).toArray t (0, 0))
section
variable {t : TypeId} {p : Nat} {L : Cs} {w : World}
theorem StatAt.lt (h : StatAt t p L w) : p < w.heap.size := (Array.getElem?_eq_some_iff.1 h).1
theorem StatAt.cell (h : StatAt t p L w) {k : Nat} (hk : k < L.length) : w.cell? ⟨p, k, none⟩ = some (.int .i64 (gI L k)) := by
  rw [Lib.cell_of_heap h, List.getElem?_toArray]
  exact cellsC_at hk
theorem StatAt.bump (h : StatAt t p L w) {k : Nat} (_hk : k < L.length) (d : Int) : StatAt t p (Go.Proofs.YtdppmmoidofgmaaDoor.bump L k d) (w.setCell ⟨p, k, none⟩ (.int .i64 (gI L k + d))) := by
  unfold StatAt
  rw [cellsC_bump]
  unfold StatAt at h
  simp [World.setCell, Array.getElem?_modify, h]
theorem StatAt.other (h : StatAt t p L w) {q k : Nat} (hq : q ≠ p) (v : Value) : StatAt t p L (w.setCell ⟨q, k, none⟩ v) := by
  unfold StatAt
  rw [Below.heap_setCell _ _ _ _ (show p ≠ q from fun e => hq e.symm)]
  exact h
theorem StatAt.below (h : StatAt t p L w) {w' : World} (hb : Below w.heap.size w w') : StatAt t p L w' := (hb.block _ h.lt).trans h
end
end Go.Proofs.YtdppmmoidofgmaaDoor
