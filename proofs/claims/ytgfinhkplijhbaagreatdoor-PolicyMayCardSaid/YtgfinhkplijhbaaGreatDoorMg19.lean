/-
  A control's text: its parts.
-/
import Derived.Test.YtgfinhkplijhbaaGreatDoorShelf
import Derived.Deep.RegionLaw
import Derived.Deep.AppendLies
import Derived.Lib.LaidTab
import Derived.Lib.ItoaLen
import Derived.Lib.AppendIntMem
import Derived.Test.YtgfinhkplijhbaaGreatDoorMg13
import Derived.Test.YtgfinhkplijhbaaGreatDoorMg18
namespace Go.Proofs.YtgfinhkplijhbaaGreatDoor.CtrlS
open Go.RowKit HeadMath HeadS

theorem own_form {B : Nat} {w : World} {v : Value} {l : List ByteArray} {n : Nat} (h : OwnStrs B w v l) (hn : l.length = n) : ∃ a c, v = .slice a n c ∧ (a = none → c = 0) := by
  subst hn
  rcases h.2 with ⟨hv, h2⟩ | ⟨g, cap, cur, hv, _⟩
  · exact ⟨none, 0, by rw [h2]; exact hv, fun _ => rfl⟩
  · exact ⟨_, _, hv, fun e => by cases e⟩
theorem one_str (w : World) (x : ByteArray) : StrsIn (w.heap.size + 1) (w.alloc (.cells #[.string x] 9)) (some ⟨w.heap.size, 0, none⟩) [x] := by
  intro j hj
  obtain rfl : j = 0 := by simpa using hj
  exact ⟨_, 0, rfl, by omega, by simp [go_sem]⟩
theorem new_str (w : World) (X : ByteArray) : ∀ j u, [Value.string X][j]? = some u → (w.alloc (.cells #[.string X] 9)).cell? ((⟨w.heap.size, 0, none⟩ : Addr).add j) = some u := by
  intro j u hj
  match j, hj with
  | 0, hj => injection hj with hj; subst hj; simp [go_sem, Addr.add]
end Go.Proofs.YtgfinhkplijhbaaGreatDoor.CtrlS
