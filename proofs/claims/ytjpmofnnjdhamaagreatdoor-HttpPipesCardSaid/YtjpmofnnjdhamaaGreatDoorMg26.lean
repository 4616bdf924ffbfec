/-
  Bytes held against bytes.
-/
import Derived.Defers
import Derived.Recover
import Derived.Lib.ConvBytes
import Derived.Test.YtjpmofnnjdhamaaGreatDoorMg3
namespace Go.Proofs.YtjpmofnnjdhamaaGreatDoor
open Go.RowKit

theorem bytes_any (x y : List UInt8) (a b : Option Addr) (c d : Nat) (w : World) (hx : BytesAt w a x) (hy : BytesAt w b y) :
    Calls Tryz.prog 12 #[.slice a x.length c, .slice b y.length d] w fun e w' => e = .returned (.bool (x == y)) ∧ w = w' := by
  have q1 := conv_bytes hx c
  have q2 := conv_bytes hy d
  clear hx hy
  go_enter Tryz.func12, Tryz.ntmps12
  go_wp2
  go_ret
  exact ⟨rfl, rfl⟩
end Go.Proofs.YtjpmofnnjdhamaaGreatDoor
