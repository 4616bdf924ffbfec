/-
  glob's Valid and Match answer what the mathematics says.
-/
import Derived.Test.YtjdiaighfhljgaaDoorGlobParse
namespace Go.Proofs.YtjdiaighfhljgaaDoor
open Go.RowKit GlobMath

theorem parse_none (p : ByteArray) (w : World) (hp : p.size ≤ 140737488351232) (h : (if 200 < p.data.toList.length then none else parts p.data.toList) = none) :
    Calls Tryd.prog 36 #[.string p] w fun e w' => e = .returned (.tuple #[.slice none 0 0, .bool false]) ∧ Below w.heap.size w w' := by
  refine (parse_any p w hp).mono fun e w' hh => ?_
  unfold ParsePost at hh
  rw [h] at hh
  exact hh
def PartsPost (w : World) (l : List (Nat × UInt8)) (e : Ending) (w' : World) : Prop :=
  ∃ v, e = .returned (.tuple #[v, .bool true]) ∧ w'.ownsRow w.heap.size 73 2 v l.length (partCells l) ∧ Below w.heap.size w w'
theorem parse_some (p : ByteArray) (w : World) (l : List (Nat × UInt8)) (hp : p.size ≤ 140737488351232) (h : (if 200 < p.data.toList.length then none else parts p.data.toList) = some l) :
    Calls Tryd.prog 36 #[.string p] w (PartsPost w l) := by
  refine (parse_any p w hp).mono fun e w' hh => ?_
  unfold ParsePost at hh
  rw [h] at hh
  exact hh

theorem valid_eq (p : List UInt8) : validF p = ((if 200 < p.length then none else parts p).isSome) := by
  unfold validF
  by_cases h : 200 < p.length
  · rw [if_pos h]; simp; omega
  · rw [if_neg h]; simp; omega

set_option maxHeartbeats 400000 in
theorem valid_any (p : ByteArray) (w : World) (hp : p.size ≤ 140737488351232) :
    Calls Tryd.prog 28 #[.string p] w fun e w' => e = .returned (.int .i64 (if validF p.data.toList = true then 0 else 120)) ∧ Below w.heap.size w w' := by
  rw [valid_eq]
  generalize hq : (if 200 < p.data.toList.length then none else parts p.data.toList) = q
  have HQ := Lib.hid hq
  clear hq
  cases q with
  | none =>
    go_enter Tryd.func28, Tryd.ntmps28
    go_wp2_with (go_at_call 36; refine (parse_none p w hp HQ.out).mono ?_; rintro e w1 ⟨rfl, hb⟩)
    go_ret
    exact ⟨rfl, hb⟩
  | some l =>
    go_enter Tryd.func28, Tryd.ntmps28
    go_wp2_with (go_at_call 36; refine (parse_some p w l hp HQ.out).mono ?_; rintro e w1 ⟨v, rfl, hown, hb⟩)
    go_ret
    exact ⟨rfl, hb⟩

end Go.Proofs.YtjdiaighfhljgaaDoor
