/-
  Rows of fields in memory.
-/
import Derived.Test.YtjpmofnnjdhamaaGreatDoorMg3
namespace Go.Proofs.YtjpmofnnjdhamaaGreatDoor
open Go.RowKit

/-- The slice that starts at a reads as the fields l. -/
def FieldsAt (w : World) (a : Option Addr) (l : List (ByteArray × ByteArray)) : Prop :=
  ∀ k (h : k < l.length), ∃ b off, a = some ⟨b, off, none⟩ ∧ w.cell? ⟨b, off + k * 2, none⟩ = some (.string l[k].1) ∧ w.cell? ⟨b, off + k * 2 + 1, none⟩ = some (.string l[k].2)
theorem fieldsAt_nil (w : World) (a : Option Addr) : FieldsAt w a [] := fun _ h => absurd h (Nat.not_lt_zero _)
theorem cellOf_lt {w : World} {b o : Nat} {v : Value} (h : w.cell? ⟨b, o, none⟩ = some v) : b < w.heap.size := by
  rcases Nat.lt_or_ge b w.heap.size with h' | h'
  · exact h'
  · simp [World.cell?, Array.getElem?_eq_none h'] at h
theorem FieldsAt.spares {F : Nat → Prop} {w w' : World} {a : Option Addr} {l : List (ByteArray × ByteArray)} (h : FieldsAt w a l) (hs : Spares F w w') (hn : 0 < l.length → ∀ b off, a = some ⟨b, off, none⟩ → ¬ F b) : FieldsAt w' a l := by
  intro k hk
  obtain ⟨b, off, e, h1, h2⟩ := h k hk
  have hf := hn (by omega) b off e
  exact ⟨b, off, e, (hs.cell (p := ⟨b, off + k * 2, none⟩) (cellOf_lt h1) hf).trans h1, (hs.cell (p := ⟨b, off + k * 2 + 1, none⟩) (cellOf_lt h2) hf).trans h2⟩
theorem FieldsAt.lt {w : World} {a : Option Addr} {l : List (ByteArray × ByteArray)} (h : FieldsAt w a l) (hl : 0 < l.length) : ∃ b off, a = some ⟨b, off, none⟩ ∧ b < w.heap.size := by
  obtain ⟨b, off, e, h1, _⟩ := h 0 hl
  exact ⟨b, off, e, cellOf_lt h1⟩
def fieldCells (l : List (ByteArray × ByteArray)) : List Value := l.flatMap fun f => [.string f.1, .string f.2]
theorem fieldCells_at : ∀ (l : List (ByteArray × ByteArray)) (k : Nat) (h : k < l.length), (fieldCells l)[k * 2]? = some (.string l[k].1) ∧ (fieldCells l)[k * 2 + 1]? = some (.string l[k].2)
  | [], _, h => absurd h (Nat.not_lt_zero _)
  | x :: l, 0, _ => by simp [fieldCells]
  | x :: l, k + 1, h => by
    have ih := fieldCells_at l k (by simpa using h)
    have e : ∀ j, (fieldCells (x :: l))[j + 2]? = (fieldCells l)[j]? := fun j => by simp [fieldCells]
    rw [show (k + 1) * 2 = k * 2 + 2 by omega, e, show k * 2 + 2 + 1 = (k * 2 + 1) + 2 by omega, e]
    simpa using ih
theorem fieldCells_snoc (l : List (ByteArray × ByteArray)) (f : ByteArray × ByteArray) : fieldCells (l ++ [f]) = fieldCells l ++ [.string f.1, .string f.2] := by simp [fieldCells]
theorem fieldInfo : (Tryz.prog.info? 59).map (fun i => (i.zero, i.size, i.bytes)) = some (some (.agg #[.string ByteArray.empty, .string ByteArray.empty]), 2, 32) := by kernel_rfl
/-- The fields l lie in a row of the call's own, which the slice value v holds. -/
def OwnFields (w : World) (v : Value) (l : List (ByteArray × ByteArray)) : Prop := w.ownsRow 0 59 2 v l.length (fieldCells l)
theorem ownFields_nil (w : World) : OwnFields w (.slice none 0 0) [] := World.ownsRow_nil w 0 _ 2
theorem OwnFields.shape {w : World} {v : Value} {l : List (ByteArray × ByteArray)} (h : OwnFields w v l) : ∃ a c, v = .slice a l.length c ∧ FieldsAt w a l := by
  rcases h.2 with ⟨hv, h2⟩ | ⟨g, cap, cur, hv, _, hg, _⟩
  · obtain rfl : l = [] := List.eq_nil_of_length_eq_zero h2
    exact ⟨none, 0, hv, fieldsAt_nil w _⟩
  · refine ⟨_, _, hv, ?_⟩
    intro k hk
    have hc := fieldCells_at l k hk
    have h1 := World.ownsRow.cells h (g := g) (by rw [hv]; rfl) (k * 2) _ hc.1
    have h2 := World.ownsRow.cells h (g := g) (by rw [hv]; rfl) (k * 2 + 1) _ hc.2
    rw [Addr.add_lit] at h1 h2
    exact ⟨g, 0, rfl, h1, by rw [Nat.add_assoc]; exact h2⟩
theorem OwnFields.lt {w : World} {v : Value} {l : List (ByteArray × ByteArray)} (h : OwnFields w v l) : ∀ g, v.ownBlock = some g → g < w.heap.size := fun g hg => (World.ownsRow.lt h g hg).2
theorem fieldCell_new (w : World) (x y : ByteArray) : ∀ j u, [Value.string x, Value.string y][j]? = some u → (w.alloc (.cells #[.string x, .string y] 59)).cell? ((⟨w.heap.size, 0, none⟩ : Addr).add j) = some u := by
  intro j u hj
  rw [Addr.add_lit]
  have h := Lib.cell_of_heap (heap_alloc_new w (.cells #[.string x, .string y] 59)) (0 + j)
  rw [h, Nat.zero_add]
  match j, hj with
  | 0, hj => simpa using hj
  | 1, hj => simpa using hj
  | j + 2, hj => simp at hj
end Go.Proofs.YtjpmofnnjdhamaaGreatDoor
