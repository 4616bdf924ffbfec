/-
  The reference's Parse of any text; DateReads.
-/
import Derived.Test.YtkbcklaloblmeaaGreatDoorMg16
import Derived.Test.YtkbcklaloblmeaaGreatDoorMg24
import Derived.Test.YtkbcklaloblmeaaGreatDoorMg41
import Derived.Test.YtkbcklaloblmeaaGreatDoorMg42
import Derived.Test.YtkbcklaloblmeaaGreatDoorMg43
namespace Go.Proofs.YtkbcklaloblmeaaGreatDoor
open Go.RowKit DateMath

theorem not_long {l : Bs} (h : l.length < 30) : ∀ w : Nat, w ≤ 6 → ¬ ∃ r : Bs, l = dayL.getD w [] ++ 44 :: 32 :: r ∧ r.length = 22 := by
  rintro w hw ⟨r, h1, h2⟩
  have := (split_to h1 h2).1
  have := day_len w hw
  omega
theorem refParse_anyD (s : ByteArray) (w : World) (hs : s.size ≤ 140737488351232) : Calls Tryz.prog 32 #[.string s] w (PairPost (readF s.data.toList) w) := by
  have hll : s.data.toList.length = s.size := by simp
  by_cases a : s.size = 29
  · by_cases b : sepP s.data.toList
    · exact refParse_plain s w b
    · exact refParse_bad29 s w a (ref_none _ b (fun h => by have := h.1; omega) (not_long (by omega))) b
  by_cases c : s.size = 24
  · by_cases b : sepO s.data.toList
    · exact refParse_old s w b
    · exact refParse_bad24 s w c (ref_none _ (fun h => by have := h.1; omega) b (not_long (by omega))) b
  exact refParse_rest s w hs a c
theorem refParseD_at {w : World} (s : ByteArray) (hs : s.size ≤ 140737488351232) (x : World) (hx : Below w.heap.size w x) : Calls Tryz.prog 32 #[.string s] x fun e w' => e = .returned (.tuple #[.int .i64 (readF s.data.toList).1, .int .i64 (readF s.data.toList).2]) ∧ Below w.heap.size w w' := by
  have c := refParse_anyD s x hs
  unfold PairPost at c
  exact c.mono fun e w' ⟨he, hb⟩ => ⟨he, hx.trans (hb.mono hx.size)⟩
end Go.Proofs.YtkbcklaloblmeaaGreatDoor
