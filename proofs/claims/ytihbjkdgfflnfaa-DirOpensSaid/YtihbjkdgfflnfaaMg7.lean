/-
  A fragment, written.
-/
import Derived.Lib.AppendZerosOnto
import Derived.Lib.AppendZeros
import Derived.Lib.SlBytesConst
import Derived.Test.YtihbjkdgfflnfaaMg1
import Derived.Test.YtihbjkdgfflnfaaMg5
namespace Go.Proofs.Ytihbjkdgfflnfaa
open Go.RowKit CrcMath

theorem Steps.spares {F : Nat → Prop} {w w' : World} (h : Steps w) (hs : Spares F w w') (h0 : ¬ F 0) : Steps w' := by
  intro r hr
  have hc := h r hr
  have hlt : 0 < w.heap.size := by
    rcases Nat.lt_or_ge 0 w.heap.size with h | h
    · exact h
    · simp [World.cell?, Array.getElem?_eq_none h] at hc
  exact (hs.cell (p := ⟨0, r, none⟩) hlt h0).trans hc
def lastN (b : Bool) : Nat := if b then 1 else 0
/-- A writer that was made anew, and all that came since. -/
def Since (B : Nat) (w5 : World) (F : Nat → Prop) (w' : World) : Prop := Spares (fun k => B ≤ k) w5 w' ∧ ∀ k, F k → B ≤ k
theorem Since.alloc {B : Nat} {w5 w' : World} {F : Nat → Prop} (h : Since B w5 F w') (o : Obj) : Since B w5 F (w'.alloc o) := ⟨h.1.alloc o, h.2⟩

end Go.Proofs.Ytihbjkdgfflnfaa
