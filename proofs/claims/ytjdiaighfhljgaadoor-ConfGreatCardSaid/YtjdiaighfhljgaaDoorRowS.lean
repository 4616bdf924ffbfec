/-
  A row of texts that the call itself made, at or behind a base: append of one text, the last one taken off, what it holds.
-/
import Derived.Test.YtjdiaighfhljgaaDoorRow8
import Derived.WalkSmall
namespace Go.Proofs.YtjdiaighfhljgaaDoor
open Go.RowKit

def textCells (l : List ByteArray) : List Value := l.map Value.string
def RowS (B : Nat) (w : World) (v : Value) (l : List ByteArray) : Prop := w.ownsRow B 9 1 v l.length (textCells l)
theorem RowS.lt {B : Nat} {w : World} {v : Value} {l : List ByteArray} (h : RowS B w v l) : ∀ g, v.ownBlock = some g → B ≤ g ∧ g < w.heap.size := World.ownsRow.lt h
theorem RowS.spares {B : Nat} {F : Nat → Prop} {w w' : World} {v : Value} {l : List ByteArray} (h : RowS B w v l) (hs : Spares F w w') (hn : ∀ g, v.ownBlock = some g → ¬ F g) : RowS B w' v l := hs.own h hn
/-- What it is: nil, or a block of the call's own whose first cells are the texts. -/
theorem RowS.shape {B : Nat} {w : World} {v : Value} {l : List ByteArray} (h : RowS B w v l) : (v = .slice none 0 0 ∧ l = []) ∨ ∃ g c, v = .slice (some ⟨g, 0, none⟩) l.length c ∧ B ≤ g ∧ g < w.heap.size ∧ l.length ≤ c ∧ ∀ k (hk : k < l.length), w.cell? ⟨g, k, none⟩ = some (.string l[k]) := by
  have hlt := h.lt
  rcases h.2 with ⟨hv, h2⟩ | ⟨g, cap, cur, hv, hg, hb, hn, hc, hsz, ht⟩
  · exact .inl ⟨by rw [hv], List.eq_nil_of_length_eq_zero h2⟩
  · refine .inr ⟨g, cap, hv, hg, (hlt g (by rw [hv]; rfl)).2, hn, fun k hk => ?_⟩
    rw [Lib.cell_of_heap hb]
    have e : (cur.toList.take (l.length * 1))[k]? = (textCells l)[k]? := by rw [ht]
    rw [List.getElem?_take, if_pos (by omega)] at e
    simpa [textCells, hk] using e
section
variable {w : World}
end
end Go.Proofs.YtjdiaighfhljgaaDoor
