/-
  ending: the last block or two of a text, padded.
-/
import Derived.Laws.CopyOwn
import Derived.Test.YtkbcklaloblmeaaGreatDoorMg4
import Derived.Test.YtkbcklaloblmeaaGreatDoorMg5
namespace Go.Proofs.YtkbcklaloblmeaaGreatDoor
open Go.RowKit

def bytesV (l : List UInt8) : Array Value := (Lib.byteCells l).toArray
theorem bytesV_size (l : List UInt8) : (bytesV l).size = l.length := by simp [bytesV, Lib.byteCells]
theorem bytesV_get (l : List UInt8) (i : Nat) (h : i < l.length) : (bytesV l)[i]? = some (.int .u8 (l.getD i 0).toNat) := by
  simp [bytesV, Lib.byteCells, List.getD_eq_getElem?_getD, List.getElem?_eq_getElem h]
theorem bytesV_at {w : World} {g : Nat} {t : TypeId} {l : List UInt8} (h : w.heap[g]? = some (.cells (bytesV l) t (0, 0))) : BytesAt w (some ⟨g, 0, none⟩) l := by
  intro k hk
  refine ⟨g, 0, rfl, ?_⟩
  rw [Nat.zero_add, Lib.cell_of_heap h, bytesV_get l k hk, List.getD_eq_getElem?_getD, List.getElem?_eq_getElem hk]
  rfl
theorem bytesV_set (A B : List UInt8) (y x : UInt8) : (bytesV (A ++ y :: B)).setIfInBounds A.length (.int .u8 x.toNat) = bytesV (A ++ x :: B) := by
  simp [bytesV, Lib.byteCells]
end Go.Proofs.YtkbcklaloblmeaaGreatDoor
