/-
  NormSegments' walk, with and without a slash at the end.
-/
import Derived.Test.YtokgpmelhmaokaaDoorNormSegsT
import Derived.Test.YtokgpmelhmaokaaDoorNormSegsF
import Derived.Test.YtokgpmelhmaokaaDoorLaidInts
namespace Go.Proofs.YtokgpmelhmaokaaDoor
open Go.RowKit HeadMath NormMath

theorem segments_any (a : Option Addr) (c : Nat) (l : List UInt8) (endd : Bool) (w : World) (hat : BytesAt w a l) (_hmax : l.length ≤ maxLen) (m : Int) (hm : w.cell? ⟨1, 0, none⟩ = some (.int .i64 m)) :
    Calls Tryd.prog 5 #[.slice a l.length c, .bool endd] w fun e w' => e = .returned (.bool true) ∧ Below w.heap.size w w' := by
  cases endd with
  | true => exact segs_true a c l w hat m hm
  | false => exact segs_false a c l w hat m hm
end Go.Proofs.YtokgpmelhmaokaaDoor
