/-
  ending: the last block or two of a text, padded.
-/
import Derived.Laws.CopyOwn
import Derived.Test.YtaimhfnddolilaaGreatDoorMg15
namespace Go.Proofs.YtaimhfnddolilaaGreatDoor
open Go.RowKit

def bytesV (l : List UInt8) : Array Value := (Lib.byteCells l).toArray
end Go.Proofs.YtaimhfnddolilaaGreatDoor
