/-
  Any pattern matches any text, or doesn't, as the reference says: ambrylaw24.GlobMatches returns true, whatever it is given.
-/
import Derived.Test.YtalehempjdjehaaGlobRefMatch
namespace Go.Proofs.Ytalehempjdjehaa
open Go.RowKit GlobMath

theorem valid_v (p : ByteArray) (w : World) (hp : p.size ≤ 1000000000000) :
    Calls Try.prog 11 #[.string p] w fun e w' => e = .returned (.int .i64 (vcode (validF p.data.toList))) ∧ Below w.heap.size w w' := valid_any p w (by omega)

set_option maxHeartbeats 1000000 in
theorem matches_any (p s : ByteArray) (w : World) (hp : p.size ≤ 140737488351232) (hs : s.size ≤ 140737488351232) :
    Calls Try.prog 3 #[.string p, .string s] w fun e w' => e = .returned (.bool true) ∧ Below w.heap.size w w' := by
  by_cases h1 : (300 : Int) < p.size
  · go_enter Try.func3, Try.ntmps3
    go_wp2_with (go_at_call 8; refine (known_any _).mono ?_; rintro e w1 ⟨rfl, hb1⟩)
    go_ret
    exact ⟨rfl, hb1⟩
  · have h1' : (p.size : Int) ≤ 300 := by omega
    have g1 : decide ((300 : Int) < p.size) = false := decide_eq_false h1
    clear h1
    by_cases h2 : (300 : Int) < s.size
    · go_enter Try.func3, Try.ntmps3
      go_wp2_with (go_at_call 8; refine (known_any _).mono ?_; rintro e w1 ⟨rfl, hb1⟩)
      go_ret
      exact ⟨rfl, hb1⟩
    · have h2' : (s.size : Int) ≤ 300 := by omega
      have g2 : decide ((300 : Int) < s.size) = false := decide_eq_false h2
      clear h2
      go_enter Try.func3, Try.ntmps3
      go_wp2_with (go_at_call 8; refine (known_any _).mono ?_; rintro e w1 ⟨rfl, hb1⟩)
      refine (match_any p s _ (by omega) (by omega)).mono ?_
      rintro e w2 ⟨rfl, hb2⟩
      replace hb2 := hb1.trans (hb2.mono hb1.size)
      go_wp2_with fail
      refine (refMatch_any p s _ (by omega) (by omega)).mono ?_
      rintro e w3 ⟨rfl, hb3⟩
      replace hb3 := hb2.trans (hb3.mono hb2.size)
      go_wp2_with fail
      refine (valid_v p _ (by omega)).mono ?_
      rintro e w4 ⟨rfl, hb4⟩
      replace hb4 := hb3.trans (hb4.mono hb3.size)
      go_wp2_with fail
      refine (refValid_any p _ (by omega)).mono ?_
      rintro e w5 ⟨rfl, rfl⟩
      go_wp2_with fail
      refine (literal_any s _ (by omega)).mono ?_
      rintro e w6 ⟨rfl, hb6⟩
      replace hb6 := hb4.trans (hb6.mono hb4.size)
      go_wp2_with fail
      refine (refLiteral_any s _ (by omega)).mono ?_
      rintro e w7 ⟨rfl, rfl⟩
      go_wp2
      go_ret
      exact ⟨by simp, hb6⟩
end Go.Proofs.Ytalehempjdjehaa
