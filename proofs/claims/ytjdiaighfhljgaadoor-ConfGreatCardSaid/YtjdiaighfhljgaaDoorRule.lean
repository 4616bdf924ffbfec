/-
  acl.Parse: a rule of a text.
-/
import Derived.Test.YtjdiaighfhljgaaDoorRuleBad
import Derived.Test.YtjdiaighfhljgaaDoorRuleWord
import Derived.Test.YtjdiaighfhljgaaDoorRuleGood
namespace Go.Proofs.YtjdiaighfhljgaaDoor
open Go.RowKit GlobMath

theorem words_size {s x : ByteArray} (h : x ∈ wordsL s) : x.size ≤ s.size := size_cut h
theorem rule_any (s : ByteArray) (w : World) (hs : s.size ≤ 1000000) : Calls Tryd.prog 18 #[.string s] w (RulePost s w) := by
  by_cases h4 : (wordsL s).length = 4
  · obtain ⟨a, m, h, p, hL⟩ : ∃ a m h p, wordsL s = [a, m, h, p] := by
      match hl : wordsL s, h4 with
      | [a, m, h, p], _ => exact ⟨a, m, h, p, rfl⟩
    have hz : ∀ x ∈ [a, m, h, p], x.size ≤ 1000000 := fun x hx => Nat.le_trans (words_size (by rw [hL]; exact hx)) hs
    by_cases h1 : a.data.toList = allowB
    · exact parse_allow s w hs a m h p hL h1 (hz m (by simp)) (hz h (by simp)) (hz p (by simp))
    · by_cases h2 : a.data.toList = denyB
      · exact parse_deny s w hs a m h p hL h2 (hz m (by simp)) (hz h (by simp)) (hz p (by simp))
      · exact parse_word s w hs a m h p hL (by unfold firstF; simp [h1, h2])
  · exact parse_count s w hs h4
end Go.Proofs.YtjdiaighfhljgaaDoor
