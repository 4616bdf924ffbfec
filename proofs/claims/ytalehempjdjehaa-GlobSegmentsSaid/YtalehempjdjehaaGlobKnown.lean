/-
  The law's own example, and what of glob it asks.
-/
import Derived.Test.YtalehempjdjehaaGlobLiteral
namespace Go.Proofs.Ytalehempjdjehaa
open Go.RowKit GlobMath

theorem match_at (p s : ByteArray) (b : Bool) (w : World) (hb : matchF p.data.toList s.data.toList = b) (hp : p.size ≤ 1000000000000) (hs : s.size ≤ 1000000000000) :
    Calls Try.prog 9 #[.string p, .string s] w fun e w' => e = .returned (.bool b) ∧ Below w.heap.size w w' := by
  rw [← hb]; exact match_any p s w hp hs
theorem valid_at (p : ByteArray) (n : Int) (w : World) (hb : (if validF p.data.toList = true then (0 : Int) else 120) = n) (hp : p.size ≤ 1000000000000) :
    Calls Try.prog 11 #[.string p] w fun e w' => e = .returned (.int .i64 n) ∧ Below w.heap.size w w' := by
  rw [← hb]; exact valid_any p w (by omega)
theorem literal_at (s : ByteArray) (l : List UInt8) (w : World) (hb : literalF s.data.toList = l) (hs : s.size ≤ 1000000000000) :
    Calls Try.prog 13 #[.string s] w fun e w' => e = .returned (.string ⟨l.toArray⟩) ∧ Below w.heap.size w w' := by
  rw [← hb]; exact literal_any s w hs

set_option maxHeartbeats 1000000 in
theorem known_any (w : World) : Calls Try.prog 8 #[] w fun e w' => e = .returned (.bool true) ∧ Below w.heap.size w w' := by
  go_enter Try.func8, Try.ntmps8
  go_wp2_with fail
  refine (match_at _ _ true _ (by decide +kernel) (by decide) (by decide)).mono ?_
  rintro e w1 ⟨rfl, hb1⟩
  go_wp2_with fail
  refine (match_at _ _ false _ (by decide +kernel) (by decide) (by decide)).mono ?_
  rintro e w2 ⟨rfl, hb2⟩
  replace hb2 := hb1.trans (hb2.mono hb1.size)
  go_wp2_with fail
  refine (match_at _ _ true _ (by decide +kernel) (by decide) (by decide)).mono ?_
  rintro e w3 ⟨rfl, hb3⟩
  replace hb3 := hb2.trans (hb3.mono hb2.size)
  go_wp2_with fail
  refine (match_at _ _ false _ (by decide +kernel) (by decide) (by decide)).mono ?_
  rintro e w4 ⟨rfl, hb4⟩
  replace hb4 := hb3.trans (hb4.mono hb3.size)
  go_wp2_with fail
  refine (valid_at _ 120 _ (by decide +kernel) (by decide)).mono ?_
  rintro e w5 ⟨rfl, hb5⟩
  replace hb5 := hb4.trans (hb5.mono hb4.size)
  go_wp2_with fail
  refine (literal_at _ [97, 92, 42] _ (by decide +kernel) (by decide)).mono ?_
  rintro e w6 ⟨rfl, hb6⟩
  replace hb6 := hb5.trans (hb6.mono hb5.size)
  go_wp2
  go_ret
  exact ⟨rfl, hb6⟩

end Go.Proofs.Ytalehempjdjehaa
