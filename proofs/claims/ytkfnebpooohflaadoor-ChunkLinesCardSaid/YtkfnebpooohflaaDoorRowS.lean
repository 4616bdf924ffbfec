/-
  A row of texts that the call itself made, at or behind a base: append of one text, the last one taken off, what it holds.
-/
import Derived.Test.YtkfnebpooohflaaDoorRow8
import Derived.WalkSmall
namespace Go.Proofs.YtkfnebpooohflaaDoor
open Go.RowKit

def textCells (l : List ByteArray) : List Value := l.map Value.string
theorem textCells_len (l : List ByteArray) : (textCells l).length = l.length := by simp [textCells]
theorem textCells_app (a b : List ByteArray) : textCells (a ++ b) = textCells a ++ textCells b := by simp [textCells]
theorem textCells_one (l : List ByteArray) : ∀ u ∈ textCells l, u.oneCell' = true := by
  intro u hu
  obtain ⟨s, _, rfl⟩ := List.mem_map.1 hu
  rfl
theorem textInfo : (Tryd.prog.info? 9).map (fun i => (i.zero, i.size, i.bytes)) = some (some (.string ⟨#[]⟩), 1, 16) := by kernel_rfl
def RowS (B : Nat) (w : World) (v : Value) (l : List ByteArray) : Prop := w.ownsRow B 9 1 v l.length (textCells l)
theorem rowS_nil (B : Nat) (w : World) : RowS B w (.slice none 0 0) [] := World.ownsRow_nil w B _ 1
theorem RowS.lt {B : Nat} {w : World} {v : Value} {l : List ByteArray} (h : RowS B w v l) : ∀ g, v.ownBlock = some g → B ≤ g ∧ g < w.heap.size := World.ownsRow.lt h
theorem RowS.spares {B : Nat} {F : Nat → Prop} {w w' : World} {v : Value} {l : List ByteArray} (h : RowS B w v l) (hs : Spares F w w') (hn : ∀ g, v.ownBlock = some g → ¬ F g) : RowS B w' v l := hs.own h hn
theorem rowS_grown {B : Nat} {w w' : World} {v : Value} {l : List ByteArray} (h : RowS B w v l) (hg : w.grownBy w' v.ownBlock) : Spares (atLeast B) w w' :=
  (Spares.refl _ w).grown hg fun k hk => .inl (h.lt k hk).1
/-- What it is: nil, or a block of the call's own whose first cells are the texts. -/
theorem RowS.shape {B : Nat} {w : World} {v : Value} {l : List ByteArray} (h : RowS B w v l) : (v = .slice none 0 0 ∧ l = []) ∨ ∃ g c, v = .slice (some ⟨g, 0, none⟩) l.length c ∧ B ≤ g ∧ g < w.heap.size ∧ l.length ≤ c ∧ ∀ k (hk : k < l.length), w.cell? ⟨g, k, none⟩ = some (.string l[k]) := by
  have hlt := h.lt
  rcases h.2 with ⟨hv, h2⟩ | ⟨g, cap, cur, hv, hg, hb, hn, hc, hsz, ht⟩
  · exact .inl ⟨by rw [hv], List.eq_nil_of_length_eq_zero h2⟩
  · refine .inr ⟨g, cap, hv, hg, (hlt g (by rw [hv]; rfl)).2, hn, fun k hk => ?_⟩
    rw [Lib.cell_of_heap hb]
    have e : (cur.toList.take (l.length * 1))[k]? = (textCells l)[k]? := by rw [ht]
    rw [List.getElem?_take, if_pos (by omega)] at e
    simpa [textCells, hk] using e
/-- The last one taken off. -/
theorem RowS.pop {B : Nat} {w : World} {g c : Nat} {l : List ByteArray} {x : ByteArray} (h : RowS B w (.slice (some ⟨g, 0, none⟩) (l.length + 1) c) (l ++ [x])) : RowS B w (.slice (some ⟨g, 0, none⟩) l.length c) l := by
  unfold RowS at h ⊢
  rw [List.length_append, textCells_app] at h
  exact ownsRow_pop (by rw [textCells_len, Nat.mul_one]) h
section
variable {w : World}
/-- append(v, x) of one text: the row of one is made just before. -/
theorem wpList_rowS_one {ops : Array Oper} {rest : List Oper} {o : Oper} {a : Act} {Q : Exit → Act → World → Prop} (hgd : o.guard = none) (s y : Operand)
    (ho : o.op = .call { callee := .builtin .append, args := #[s, y], argTypes := #[55, 55] })
    (B : Nat) (v : Value) (l : List ByteArray) (hs : a.eval s = v) (hown : RowS B w v l) (x : ByteArray)
    (hy : a.eval y = .slice (some ⟨w.heap.size, 0, none⟩) 1 1) (hlen : l.length + 1 ≤ 1000000000000) (hB : B ≤ w.heap.size)
    (hK : ∀ v' w', RowS B w' v' (l ++ [x]) → Spares (atLeast B) w w' → wpList Tryd.prog ops Q rest (a.put o.dst v') w') : wpList Tryd.prog ops Q (o :: rest) a (w.alloc (.cells #[.string x] 9)) := by
  have hs1 : Spares nowhere w (w.alloc (.cells #[.string x] 9)) := (Spares.refl _ _).alloc _
  obtain ⟨i0, hi, hz0, hz1, hz2⟩ := info_parts textInfo
  have hown1 : RowS B (w.alloc (.cells #[.string x] 9)) v l := hown.spares hs1 (fun _ _ h => h)
  refine wpList_append_own _ hgd s y 55 ho B 9 i0 (.string ⟨#[]⟩) 1 16 Tryd.underlying55 hi hz0 hz1 hz2 rfl (by decide) v l.length (textCells l) hs hown1 ⟨w.heap.size, 0, none⟩ 1 1 [.string x] hy rfl ?_ ?_ (by unfold maxLen; omega) (by omega) (Nat.le_trans hB hs1.size) ?_
  · intro j u hj
    match j, hj with
    | 0, hj => simp at hj; subst hj; simp [Addr.add]
    | j + 1, hj => simp at hj
  · intro u hu; simp at hu; subst hu; rfl
  · intro v' w' h1 h2 _
    refine hK v' w' (by unfold RowS; rw [List.length_append, textCells_app]; exact h1) ((hs1.mono (fun _ h => by cases h)).trans (rowS_grown hown1 h2))
end
end Go.Proofs.YtkfnebpooohflaaDoor
