/-
  norm's Escapes answers what the mathematics says.
-/
import Derived.Test.YtkbcklaloblmeaaGreatDoorRows
import Derived.Test.YtkbcklaloblmeaaGreatDoorShelf
import Derived.WalkKit
import Derived.WalkSpells
import Derived.WalkLawsBesides
import Derived.Lib.Hide
import Derived.Lib.AppendStr
import Derived.Lib.Builder
import Derived.Lib.OwnKind
import Derived.Test.YtkbcklaloblmeaaGreatDoorMg1
namespace Go.Proofs.YtkbcklaloblmeaaGreatDoor.NormS
open Go.RowKit HeadMath NormMath

theorem size_list (s : ByteArray) : s.data.toList.length = s.size := by simp
theorem list_at (s : ByteArray) (j : Nat) (h : j < s.size) : s.data.toList[j]'(by rw [size_list]; exact h) = s[j] := rfl
theorem extract_size (s : ByteArray) (a b : Nat) (_h : a ≤ b) (hb : b ≤ s.size) : (s.extract a b).size = b - a := by
  rw [ByteArray.size_extract]; omega
theorem extract_at (s : ByteArray) (a b j : Nat) (h : a + j < b) (hb : b ≤ s.size) : (s.extract a b)[j]'(by rw [extract_size s a b (by omega) hb]; omega) = s[a + j] := by
  rw [ByteArray.getElem_extract]

theorem builder_below {B b : Nat} {p : Value} {bs : List Value} {w w' : World} (h : Lib.BuilderAt 65 5 B b p bs w) (hb : Below w.heap.size w w') : Lib.BuilderAt 65 5 B b p bs w' := by
  have hlt := h.lt
  obtain ⟨h1, v, h2, h3, h4⟩ := h
  exact ⟨h1, v, by rw [hb.block b hlt]; exact h2, h3.kept (row := none) ⟨hb.os, hb.tape, hb.output, hb.size, fun k hk _ => hb.block k hk⟩ (Classical.em _), h4⟩
theorem isBuilder_below {B b : Nat} {bs : List Value} {w w' : World} (h : Lib.IsBuilder 65 5 B b bs w) (hb : Below w.heap.size w w') : Lib.IsBuilder 65 5 B b bs w' :=
  h.elim (fun h => .inl (builder_below h hb)) (fun h => .inr (builder_below h hb))

theorem built_empty {w : World} : Lib.IsBuilder 65 5 w.heap.size w.heap.size [] (w.alloc (.cells #[.pointer none, .slice none 0 0] 65)) := Lib.fresh_isBuilder _ _ w

theorem hexB_none {c : UInt8} (h : hexB c = false) : hexV c = none := by
  unfold hexB at h; cases hv : hexV c with
  | none => rfl
  | some a => rw [hv] at h; cases h
theorem hexB_some {c : UInt8} (h : hexB c = true) : hexV c = some (hexN c) := by
  unfold hexB at h; unfold hexN; cases hv : hexV c with
  | none => rw [hv] at h; cases h
  | some a => rfl

end Go.Proofs.YtkbcklaloblmeaaGreatDoor.NormS
