/-
  Bytes held against bytes.
-/
import Derived.Defers
import Derived.Recover
import Derived.Lib.ConvBytes
import Derived.Test.YtihbjkdgfflnfaaMg1
namespace Go.Proofs.Ytihbjkdgfflnfaa
open Go.RowKit

theorem bytes_any (x y : List UInt8) (a b : Option Addr) (c d : Nat) (w : World) (hx : BytesAt w a x) (hy : BytesAt w b y) :
    Calls Try.prog 24 #[.slice a x.length c, .slice b y.length d] w fun e w' => e = .returned (.bool (x == y)) ∧ w = w' := by
  have q1 := conv_bytes hx c
  have q2 := conv_bytes hy d
  clear hx hy
  go_enter Try.func24, Try.ntmps24
  go_wp2
  go_ret
  exact ⟨rfl, rfl⟩
end Go.Proofs.Ytihbjkdgfflnfaa
