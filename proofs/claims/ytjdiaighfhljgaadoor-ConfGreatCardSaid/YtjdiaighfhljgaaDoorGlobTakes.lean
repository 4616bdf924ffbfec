/-
  glob's parts: whether a byte may stand where a part does.
-/
import Derived.Test.YtjdiaighfhljgaaDoorRows
import Derived.Test.YtjdiaighfhljgaaDoorGlobMath
import Derived.WalkKit
import Derived.WalkSpells
import Derived.WalkLawsBesides
namespace Go.Proofs.YtjdiaighfhljgaaDoor
open Go.RowKit GlobMath

theorem u8_beq (a b : UInt8) : ((a.toNat : Int) == (b.toNat : Int)) = (a == b) := by
  rw [Bool.eq_iff_iff, beq_iff_eq, beq_iff_eq]
  constructor
  · intro h; exact UInt8.toNat_inj.1 (by omega)
  · rintro rfl; rfl
theorem u8_beq_lit (a : UInt8) (n : Nat) (h : n < 256) : ((a.toNat : Int) == (n : Int)) = (a == UInt8.ofNat n) := by
  have := u8_beq a (UInt8.ofNat n)
  rw [show (UInt8.ofNat n).toNat = n from by simp; omega] at this
  exact this
end Go.Proofs.YtjdiaighfhljgaaDoor
