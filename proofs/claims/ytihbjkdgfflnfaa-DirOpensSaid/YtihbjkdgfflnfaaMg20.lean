/-
  CodeCuts.
-/
import Derived.Lib.SlBytesConst
import Derived.ProofKit
import Derived.OpenShut
import Derived.LaidSub
import Derived.MakeChecks
import Derived.Test.YtihbjkdgfflnfaaRows
import Derived.Lib.AppendZerosOnto
import Derived.Lib.AppendZeros
import Derived.Test.YtihbjkdgfflnfaaMg1
import Derived.Test.YtihbjkdgfflnfaaMg19
namespace Go.Proofs.Ytihbjkdgfflnfaa
open Go.RowKit CrcMath

theorem place_any (k : Int) (n : Nat) (w : World) (h0 : 0 < n) (hn : n ≤ 140737488355328) (hk : -9223372036854775808 ≤ k ∧ k ≤ 9223372036854775807) :
    Calls Try.prog 11 #[.int .i64 k, .int .i64 n] w fun e w' => (∃ m : Nat, m < n ∧ e = .returned (.int .i64 m)) ∧ w = w' := by
  have hr1 : k.tmod n < n := Int.tmod_lt_of_pos k (by omega)
  have hr2 : -(n : Int) < k.tmod n := by
    have := Int.tmod_lt_of_pos (-k) (show (0 : Int) < n by omega)
    rw [Int.neg_tmod] at this
    omega
  have q0 : ¬ (n : Int) = 0 := by omega
  obtain ⟨r, hr⟩ : ∃ r, k.tmod n = r := ⟨_, rfl⟩
  rw [hr] at hr1 hr2
  obtain ⟨hk1, hk2⟩ := hk
  by_cases hneg : r < 0
  · go_enter Try.func11, Try.ntmps11
    go_wp2
    go_ret
    exact ⟨⟨(r + n).toNat, by omega, by rw [Int.toNat_of_nonneg (by omega)]; rfl⟩, rfl⟩
  · go_enter Try.func11, Try.ntmps11
    go_wp2
    go_ret
    exact ⟨⟨r.toNat, by omega, by rw [Int.toNat_of_nonneg (by omega)]; rfl⟩, rfl⟩

end Go.Proofs.Ytihbjkdgfflnfaa
