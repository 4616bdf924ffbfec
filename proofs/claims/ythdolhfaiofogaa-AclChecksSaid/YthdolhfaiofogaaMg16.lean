/-
  glob's parts: whether a byte may stand where a part does.
-/
import Derived.Test.YthdolhfaiofogaaRows
import Derived.WalkKit
import Derived.WalkSpells
import Derived.WalkLawsBesides
import Derived.Test.YthdolhfaiofogaaMg4
namespace Go.Proofs.Ythdolhfaiofogaa
open Go.RowKit GlobMath

theorem u8_beq (a b : UInt8) : ((a.toNat : Int) == (b.toNat : Int)) = (a == b) := by
  rw [Bool.eq_iff_iff, beq_iff_eq, beq_iff_eq]
  constructor
  · intro h; exact UInt8.toNat_inj.1 (by omega)
  · rintro rfl; rfl
theorem u8_beq_lit (a : UInt8) (n : Nat) (h : n < 256) : ((a.toNat : Int) == (n : Int)) = (a == UInt8.ofNat n) := by
  have := u8_beq a (UInt8.ofNat n)
  rw [show (UInt8.ofNat n).toNat = n from by simp; omega] at this
  exact this
theorem u8_bne47 (a : UInt8) : ((a.toNat : Int) != 47) = (a != 47) := congrArg (!·) (u8_beq_lit a 47 (by omega))

set_option maxHeartbeats 400000 in
theorem takes_any (k : Nat) (c b : UInt8) (w : World) (hk : k ≤ 3) :
    Calls Try.prog 49 #[.agg #[.int .i64 k, .int .u8 c.toNat], .int .u8 b.toNat] w fun e w' => e = .returned (.bool (takes (k, c) b)) ∧ w.alloc (.cells #[.int .i64 k, .int .u8 c.toNat] 76) = w' := by
  go_enter Try.func49, Try.ntmps49
  go_wp2
  all_goals
    go_ret
    refine ⟨?_, rfl⟩
  · have h : k = 0 := by have h1 : ((k : Int) == 0) = true := by assumption
                         simp at h1; exact h1
    subst h; simp [takes, u8_beq]
  · have h : k = 3 := by have h1 : ((k : Int) == 3) = true := by assumption
                         simp at h1; omega
    subst h; simp [takes]
  · have h : k ≠ 0 := by have h1 : ((k : Int) == 0) = false := by assumption
                         simp at h1; exact h1
    have h' : k ≠ 3 := by have h1 : ((k : Int) == 3) = false := by assumption
                          simp at h1; omega
    simp only [takes, u8_bne47, if_neg h, if_neg h']; rfl
end Go.Proofs.Ythdolhfaiofogaa
