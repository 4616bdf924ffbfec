/-
  The reference's Text: some text, not long.
-/
import Derived.Test.YtgfinhkplijhbaaGreatDoorMg41
namespace Go.Proofs.YtgfinhkplijhbaaGreatDoor
open Go.RowKit DateMath

theorem mon_le : ∀ k : Nat, (monL.getD k []).length ≤ 3
  | 0 | 1 | 2 | 3 | 4 | 5 | 6 | 7 | 8 | 9 | 10 | 11 => by decide
  | k + 12 => by simp [monL]
theorem plain_le (m : Mom) : (plainT m).length ≤ 100 := by
  have h1 := mon_le m.mon
  have h2 : ∀ n, (two2 n).length = 2 := fun _ => rfl
  have h3 : ((dayL.getD m.wd []).take 3).length ≤ 3 := List.length_take_le _ _
  unfold plainT clockT day3 monT
  simp only [List.length_append, List.length_cons, List.length_nil, h2]
  omega
theorem textS_any (t : Int) (w : World) : Calls Tryz.prog 24 #[.int .i64 t] w fun e w' => ∃ s : ByteArray, e = .returned (.string s) ∧ s.size ≤ 100 ∧ Below w.heap.size w w' :=
  (refText_any t w).mono fun e w' ⟨he, hb⟩ => ⟨_, he, by rw [arrD_size]; exact plain_le _, hb⟩
end Go.Proofs.YtgfinhkplijhbaaGreatDoor
