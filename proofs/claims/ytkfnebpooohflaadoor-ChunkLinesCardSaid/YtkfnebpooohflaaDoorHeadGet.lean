/-
  The values of a name, in the program.
-/
import Derived.Test.YtkfnebpooohflaaDoorHeadParse
namespace Go.Proofs.YtkfnebpooohflaaDoor.HeadS
open Go.RowKit HeadMath

/-- A row of fields in memory. -/
def FieldsIn (B : Nat) (w : World) (a : Option Addr) (l : List (ByteArray × ByteArray)) : Prop :=
  ∀ j (h : j < l.length), ∃ b off, a = some ⟨b, off, none⟩ ∧ b < B ∧ w.cell? ⟨b, off + j * 2, none⟩ = some (.string l[j].1) ∧ w.cell? ⟨b, off + j * 2 + 1, none⟩ = some (.string l[j].2)
end Go.Proofs.YtkfnebpooohflaaDoor.HeadS