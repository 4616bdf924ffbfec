/-
  The mathematics of a path without dots.
-/
import Derived.Test.YtokgpmelhmaokaaDoorHeadMath
import Derived.Lib.Join
namespace Go.Proofs.YtokgpmelhmaokaaDoor.NormMath
open Go

abbrev Seg := List UInt8
/-- One piece more. -/
def stepD (st : List Seg) (s : Seg) : List Seg := if s = [46] then st else if s = [46, 46] then st.dropLast else st ++ [s]
def openD (last : Seg) : Bool := last == [] || last == [46] || last == [46, 46]
/-- The pieces that are folded: the last one, where it is empty, isn't. -/
def foldD (l : List Seg) (last : Seg) : List Seg := ((if last = [] then l else l ++ [last])).foldl stepD []
/-- The text that a reference builds. -/
def textR (out : List Seg) (endd : Bool) : List UInt8 := let t := (out.map ([47] ++ ·)).flatten; if endd || t.isEmpty then t ++ [47] else t
/-- The text that a join builds. -/
def textP (out : List Seg) (endd : Bool) : List UInt8 := [47] ++ Lib.join (if endd && !out.isEmpty then out ++ [[]] else out) [47]
theorem join_slash : ∀ (l : List Seg), l ≠ [] → [47] ++ Lib.join l [47] = (l.map ([47] ++ ·)).flatten := by
  intro l hl
  cases l with
  | nil => exact absurd rfl hl
  | cons x r =>
    rw [Lib.join_cons]
    simp [Lib.joinTail]
theorem text_same (out : List Seg) (endd : Bool) : textP out endd = textR out endd := by
  unfold textP textR
  cases out with
  | nil => cases endd <;> rfl
  | cons x r =>
    have hne : ((((x :: r).map ([47] ++ ·)).flatten).isEmpty) = false := by simp
    cases endd with
    | false =>
      rw [if_neg (by simp), join_slash _ (by simp)]
      simp only [hne]
      rfl
    | true =>
      rw [if_pos (by simp), join_slash _ (by simp)]
      simp
end Go.Proofs.YtokgpmelhmaokaaDoor.NormMath
