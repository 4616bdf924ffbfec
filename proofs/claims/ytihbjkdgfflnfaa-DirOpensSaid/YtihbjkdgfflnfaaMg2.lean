/-
  The constants of a sum, laid once.
-/
import Derived.Defers
import Derived.Laws.Pointers
import Derived.Laws.LoneSync
import Derived.RegionTactic
import Derived.RegionCalls
import Derived.ChangeAlike
import Derived.Great.BuildSlice
import Derived.Deep.RegionLaw
import Derived.Deep.MidRow
import Derived.Test.YtihbjkdgfflnfaaMg1
namespace Go.Proofs.Ytihbjkdgfflnfaa
open Go.RowKit

theorem heap_setCells {g : Nat} {t : TypeId} : ∀ (vs pre mid post : List Value) (w : World), w.heap[g]? = some (.cells (pre ++ (mid ++ post)).toArray t (0, 0)) → mid.length = vs.length → (w.setCells g pre.length vs).heap[g]? = some (.cells (pre ++ (vs ++ post)).toArray t (0, 0))
  | [], pre, mid, post, w, h, hl => by
    obtain rfl : mid = [] := List.eq_nil_of_length_eq_zero (by simpa using hl)
    exact h
  | v :: vs, pre, mid, post, w, h, hl => by
    cases mid with
    | nil => simp at hl
    | cons m mid =>
      have h1 := heap_set h pre.length v
      have e : (pre ++ (m :: mid ++ post)).toArray.setIfInBounds pre.length v = ((pre ++ [v]) ++ (mid ++ post)).toArray := by simp
      rw [e] at h1
      have h2 := heap_setCells vs (pre ++ [v]) mid post _ h1 (by simpa using hl)
      rw [List.length_append] at h2
      simpa [World.setCells] using h2
theorem spares_setCells {g : Nat} {w : World} : ∀ (vs : List Value) (o : Nat) (w' : World), Spares (fun b => b = g) w w' → Spares (fun b => b = g) w (w'.setCells g o vs)
  | [], _, _, h => h
  | v :: vs, o, _, h => spares_setCells vs (o + 1) _ (spares_set h o v)
end Go.Proofs.Ytihbjkdgfflnfaa
