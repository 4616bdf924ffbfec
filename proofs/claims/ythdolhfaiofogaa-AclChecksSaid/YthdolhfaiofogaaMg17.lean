/-
  Rows of truths in memory; small facts on blocks that are known whole.
-/
import Derived.Test.YthdolhfaiofogaaRows
import Derived.WalkKit
import Derived.WalkSpells
import Derived.WalkLawsBesides
import Derived.Laws.OwnMore
import Derived.Deep.Draws
import Derived.Laws.Rows
import Derived.Lib.Hide
import Derived.Test.YthdolhfaiofogaaMg4
import Derived.Test.YthdolhfaiofogaaMg16
namespace Go.Proofs.Ythdolhfaiofogaa
open Go.RowKit GlobMath

def rowCells (n : Nat) (f : Nat → Bool) : Array Value := ((List.range n).map fun j => Value.bool (f j)).toArray
theorem rowCells_size (n : Nat) (f : Nat → Bool) : (rowCells n f).size = n := by simp [rowCells]
theorem rowCells_get {n j : Nat} (f : Nat → Bool) (h : j < n) : (rowCells n f)[j]? = some (.bool (f j)) := by simp [rowCells, h]
theorem rowCells_congr {n : Nat} {f g : Nat → Bool} (h : ∀ j, j < n → f j = g j) : rowCells n f = rowCells n g := by
  unfold rowCells
  congr 1
  apply List.map_congr_left
  intro j hj
  rw [h j (by simpa using hj)]
theorem rowCells_set (n j : Nat) (f : Nat → Bool) (b : Bool) : (rowCells n f).setIfInBounds j (.bool b) = rowCells n (fun k => if k = j then b else f k) := by
  apply Array.ext_getElem?
  intro i
  rw [Array.getElem?_setIfInBounds]
  by_cases hi : i < n
  · rw [rowCells_get _ hi, rowCells_get _ hi, rowCells_size]
    by_cases h : j = i
    · subst h; simp [hi]
    · rw [if_neg h, if_neg (fun e => h e.symm)]
  · have e1 : (rowCells n f)[i]? = none := by simp [rowCells, hi]
    have e2 : (rowCells n (fun k => if k = j then b else f k))[i]? = none := by simp [rowCells, hi]
    rw [e1, e2, rowCells_size]
    by_cases h : j = i
    · subst h; simp [hi]
    · rw [if_neg h]

/-- Block g is just these cells. -/
def Blk (w : World) (g : Nat) (t : TypeId) (cs : Array Value) : Prop := w.heap[g]? = some (.cells cs t (0, 0))
section
variable {w w' : World} {g : Nat} {t : TypeId} {cs : Array Value}
theorem Blk.lt (h : Blk w g t cs) : g < w.heap.size := by
  rcases Nat.lt_or_ge g w.heap.size with hlt | hge
  · exact hlt
  · unfold Blk at h; rw [Array.getElem?_eq_none hge] at h; cases h
theorem Blk.cell (h : Blk w g t cs) (i : Nat) : w.cell? ⟨g, i, none⟩ = cs[i]? := cell_of_row w g i cs t (0, 0) h
theorem Blk.frozen (h : Blk w g t cs) (i : Nat) : w.frozen? ⟨g, i, none⟩ = false := by
  unfold Blk at h
  simp [World.frozen?, h]
theorem Blk.new (w : World) (t : TypeId) (cs : Array Value) : Blk (w.alloc (.cells cs t)) w.heap.size t cs := heap_alloc_new w _
theorem Blk.drew (h : Blk w g t cs) : Blk w.drew g t cs := h
theorem Blk.drewN (h : Blk w g t cs) (n : Nat) : Blk (w.drewN n) g t cs := h
theorem Blk.alloc (h : Blk w g t cs) (o : Obj) : Blk (w.alloc o) g t cs := (Below.heap_alloc w o g h.lt).trans h
theorem Blk.set_ (h : Blk w g t cs) (i : Nat) (u : Value) : Blk (w.setCell ⟨g, i, none⟩ u) g t (cs.setIfInBounds i u) := by
  unfold Blk at h ⊢
  simp [World.setCell, Array.getElem?_modify, h]
theorem Blk.far (h : Blk w g t cs) {p : Addr} (hp : g ≠ p.block) (u : Value) : Blk (w.setCell p u) g t cs := (Below.heap_setCell w p u g hp).trans h
theorem Blk.below {B : Nat} (h : Blk w g t cs) (hb : Below B w w') (hg : g < B) : Blk w' g t cs := (hb.block g hg).trans h
theorem Blk.grown {row : Option Nat} (h : Blk w g t cs) (hb : w.grownBy w' row) (hg : some g ≠ row) : Blk w' g t cs := (hb.block g h.lt hg).trans h
end
theorem Blk.of_own {w : World} {base g n : Nat} {e : TypeId} {xs : List Value} (h : w.ownsRow base e 1 (.slice (some ⟨g, 0, none⟩) n n) n xs) : Blk w g e xs.toArray := by
  rcases h.2 with ⟨h', _⟩ | ⟨g', cap', cur, h', _, hg, _, _, hcs, htake⟩
  · simp at h'
  · simp only [Value.slice.injEq, Option.some.injEq, Addr.mk.injEq, and_true, true_and] at h'
    obtain ⟨rfl, rfl⟩ := h'
    unfold Blk
    rw [hg, ← htake, List.take_of_length_le (by rw [Array.length_toList]; omega)]
theorem blk_made {w : World} {base g n : Nat} {t : TypeId} (h : w.ownsRow base t 1 (.slice (some ⟨g, 0, none⟩) n n) n (madeCells #[Value.bool false] n).toList) : Blk w g t (rowCells n fun _ => false) := by
  have h1 := Blk.of_own h
  rw [toList_madeCells_one] at h1
  rw [show rowCells n (fun _ => false) = (List.replicate n (Value.bool false)).toArray from by simp [rowCells, List.map_const']]
  exact h1

theorem row_step {n j : Nat} {A : Nat → Bool} {b : Bool} (h : b = A (j + 1)) :
    (rowCells n fun m => decide (m ≤ j) && A m).setIfInBounds (j + 1) (.bool b) = rowCells n (fun m => decide (m ≤ j + 1) && A m) := by
  rw [rowCells_set]
  apply rowCells_congr
  intro m _
  by_cases hm : m = j + 1
  · subst hm; simp [h]
  · rw [if_neg hm]
    by_cases h1 : m ≤ j
    · simp [h1, Nat.le_succ_of_le h1]
    · have h2 : ¬ m ≤ j + 1 := by omega
      simp [h1, h2]
theorem bytes_at (s : ByteArray) (j : Nat) (h : j < s.size) : s.data.toList.getD j 0 = s[j] := by
  have h' : j < s.data.size := h
  rw [List.getD_eq_getElem?_getD, List.getElem?_eq_getElem (by simpa using h')]
  rfl

theorem boolInfo : (Try.prog.info? 4).map (fun i => (i.zero, i.size, i.bytes)) = some (some (.bool false), 1, 1) := by kernel_rfl
end Go.Proofs.Ythdolhfaiofogaa
