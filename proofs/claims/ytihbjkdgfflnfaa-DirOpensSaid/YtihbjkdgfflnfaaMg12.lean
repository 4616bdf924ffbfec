/-
  A region that draws its order, whose own operations only read and whose calls only make memory: one walk of the lexical order serves every order (Quiet.lean's theorem, at the class of the worlds that stand above w).
-/
import Derived.Test.YtihbjkdgfflnfaaProg
import Derived.WalkKit
import Derived.BigQuiet
namespace Go.Proofs.Ytihbjkdgfflnfaa
open Go.RowKit

/-- A world that has grown out of w: all of w's blocks stand. -/
structure Kin (w : World) where
  wd : World
  below : Below w.heap.size w wd
instance kin_some (w : World) : Nonempty (Kin w) := ⟨⟨w, Below.refl _ _⟩⟩
theorem Kin.cell {w : World} (x : Kin w) {p : Addr} {v : Value} (h : w.cell? p = some v) : x.wd.cell? p = some v := by
  refine (x.below.cell (p := p) ?_).trans h
  rcases Nat.lt_or_ge p.block w.heap.size with h1 | h1
  · exact h1
  · simp [World.cell?, Array.getElem?_eq_none h1] at h
theorem Kin.calls {P : Program} {f : FuncId} {args : Array Value} {w : World} {x : Kin w} {v : Value} (h : Calls P f args x.wd fun e w' => e = .returned v ∧ Below x.wd.heap.size x.wd w') :
    Calls P f args x.wd fun e w'' => e = .returned v ∧ ∃ y : Kin w, w'' = y.wd :=
  h.mono fun _ w' ⟨he, hb⟩ => ⟨he, ⟨⟨w', x.below.trans (hb.mono x.below.size)⟩, rfl⟩⟩
theorem wp_region_kin {P : Program} {id : Nat} {Q : Exit → Act → World → Prop} {a : Act} {w : World} {l : List Oper} (hm : P.follows .mixedOrders = true) (hB : Region.lexB .any l.toArray = true)
    (h : wpQuiet P l.toArray (fun w' => ∃ x : Kin w, w' = x.wd) (fun a' => ∀ w', (∃ x : Kin w, w' = x.wd) → Q .normal a' w') l a) : (Code.region id l.toArray true).wp P Q a w :=
  wp_region_quiet (C := fun w' => ∃ x : Kin w, w' = x.wd) hm hB ⟨⟨w.drew, (Below.refl _ _).drew⟩, rfl⟩ (by simpa using h)
end Go.Proofs.Ytihbjkdgfflnfaa
