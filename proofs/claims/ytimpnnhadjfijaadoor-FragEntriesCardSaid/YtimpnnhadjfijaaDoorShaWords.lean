/-
  Words of 32 bits: what the walk calls them, and what they are.
-/
import Derived.Test.YtimpnnhadjfijaaDoorBytes2
namespace Go.Proofs.YtimpnnhadjfijaaDoor
open Go.RowKit

def addW (x y : UInt32) : UInt32 := x + y
def xorW (x y : UInt32) : UInt32 := x ^^^ y
def andW (x y : UInt32) : UInt32 := x &&& y
def orW (x y : UInt32) : UInt32 := x ||| y
def notW (x : UInt32) : UInt32 := ~~~x
def shrW (x : UInt32) (n : Nat) : UInt32 := UInt32.ofNat (x.toNat / 2 ^ n)
def shlW (x : UInt32) (n : Nat) : UInt32 := UInt32.ofNat (x.toNat * 2 ^ n)
def rotW (x : UInt32) (n : Nat) : UInt32 := orW (shlW x (32 - n)) (shrW x n)

theorem u32_ofNat (n : Nat) : (UInt32.ofNat n).toNat = n % 4294967296 := by rw [UInt32.toNat_ofNat']
theorem lt32 (x : UInt32) : x.toNat < 4294967296 := x.toNat_lt
theorem addW_int (x y : UInt32) : ((x.toNat : Int) + (y.toNat : Int)) % 4294967296 = ((addW x y).toNat : Int) := by
  unfold addW; rw [UInt32.toNat_add]; omega
theorem addW_wrap (x y : UInt32) : IntKind.u32.wrap ((x.toNat : Int) + (y.toNat : Int)) = ((addW x y).toNat : Int) := by
  rw [IntKind.wrap_u32]; exact addW_int x y
theorem xorW_int (x y : UInt32) : Go.bits .xor .u32 (x.toNat : Int) (y.toNat : Int) = ((xorW x y).toNat : Int) := by
  rw [u32_xor_nat _ _ (lt32 x) (lt32 y)]; unfold xorW; rw [UInt32.toNat_xor]
theorem andW_int (x y : UInt32) : Go.bits .and .u32 (x.toNat : Int) (y.toNat : Int) = ((andW x y).toNat : Int) := by
  rw [u32_and_nat _ _ (lt32 x) (lt32 y)]; unfold andW; rw [UInt32.toNat_and]
theorem orW_int (x y : UInt32) : Go.bits .or .u32 (x.toNat : Int) (y.toNat : Int) = ((orW x y).toNat : Int) := by
  rw [u32_or_nat _ _ (lt32 x) (lt32 y)]; unfold orW; rw [UInt32.toNat_or]
theorem notW_int (x : UInt32) : Go.bits .xor .u32 4294967295 (x.toNat : Int) = ((notW x).toNat : Int) := by
  have := u32_xor_nat 4294967295 x.toNat (by decide) (lt32 x)
  rw [show ((4294967295 : Nat) : Int) = 4294967295 from rfl] at this
  rw [this]
  unfold notW
  congr 1
theorem shrW_int (x : UInt32) (n : Nat) : (x.toNat : Int) / 2 ^ n = ((shrW x n).toNat : Int) := by
  unfold shrW
  have h : x.toNat / 2 ^ n < 4294967296 := Nat.lt_of_le_of_lt (Nat.div_le_self _ _) (lt32 x)
  rw [u32_ofNat, Nat.mod_eq_of_lt h]
  simp
theorem shlW_int (x : UInt32) (n : Nat) : IntKind.u32.wrap ((x.toNat : Int) * 2 ^ n) = ((shlW x n).toNat : Int) := by
  unfold shlW
  rw [u32_ofNat, IntKind.wrap_u32]
  simp

theorem back64 (k : Nat) (h0 : 0 < k) (hk : k < 32) : ∃ M : Nat, IntKind.u64.wrap (-(k : Int)) = (M : Int) ∧ Go.bits .and .u64 (M : Int) 31 = ((32 - k : Nat) : Int) := by
  refine ⟨18446744073709551616 - k, ?_, ?_⟩
  · rw [IntKind.wrap_u64]; omega
  · have h := u64_and_nat (18446744073709551616 - k) 31 (by omega) (by omega)
    rw [nat_mask5] at h
    rw [show ((31 : Nat) : Int) = 31 from rfl] at h
    rw [h]
    omega
/-- bits.RotateLeft32(x, -k). -/
theorem rotl_any (x : UInt32) (k : Nat) (n : Int) (hn : n = -(k : Int)) (h0 : 0 < k) (hk : k < 32) (w : World) :
    Calls Tryd.prog 51 #[.int .u32 x.toNat, .int .i64 n] w fun e w' => e = .returned (.int .u32 (rotW x k).toNat) ∧ w = w' := by
  obtain ⟨M, g1, g2⟩ := back64 k h0 hk
  rw [← hn] at g1
  obtain ⟨j, hj⟩ : ∃ j, 32 - k = j := ⟨_, rfl⟩
  rw [hj] at g2
  have g3 : (32 : Int) - (j : Int) = (k : Int) := by omega
  have hj1 : (j : Int) ≤ 31 := by omega
  have g4 := shlW_int x j
  have g5 := shrW_int x k
  obtain ⟨a, ha⟩ : ∃ a, shlW x j = a := ⟨_, rfl⟩
  obtain ⟨b, hb⟩ : ∃ b, shrW x k = b := ⟨_, rfl⟩
  rw [ha] at g4
  rw [hb] at g5
  have g6 := orW_int a b
  have HE : Hid (orW a b = rotW x k) := Lib.hid (by unfold rotW; rw [hj, ha, hb])
  clear hn hj ha hb
  go_enter Tryd.func51, Tryd.ntmps51
  go_wp2
  go_ret
  exact ⟨by rw [← HE.out]; rfl, rfl⟩

/-- The reference's turn(x, k). -/
theorem turn_any (x : UInt32) (k : Nat) (h0 : 0 < k) (hk : k < 32) (w : World) :
    Calls Tryd.prog 41 #[.int .u32 x.toNat, .int .i64 k] w fun e w' => e = .returned (.int .u32 (rotW x k).toNat) ∧ ∃ n, w' = w.drewN n := by
  obtain ⟨j, hj⟩ : ∃ j, 32 - k = j := ⟨_, rfl⟩
  have g3 : (32 : Int) - (k : Int) = (j : Int) := by omega
  have g3' : IntKind.i64.wrap ((32 : Int) - (k : Int)) = (j : Int) := by rw [IntWalk.i64_in _ (by omega)]; omega
  have hj1 : (j : Int) ≤ 31 := by omega
  have hj0 : (0 : Int) ≤ (j : Int) := by omega
  have hk0 : (0 : Int) ≤ (k : Int) := by omega
  have g4 := shlW_int x j
  have g5 := shrW_int x k
  obtain ⟨a, ha⟩ : ∃ a, shlW x j = a := ⟨_, rfl⟩
  obtain ⟨b, hb⟩ : ∃ b, shrW x k = b := ⟨_, rfl⟩
  rw [ha] at g4
  rw [hb] at g5
  have g6 := orW_int b a
  have HE : Hid (orW b a = rotW x k) := Lib.hid (by unfold rotW; rw [hj, ha, hb]; unfold orW; rw [UInt32.or_comm])
  clear hj ha hb
  go_enter Tryd.func41, Tryd.ntmps41
  go_wp2
  go_quiet (fail)
  go_wp2
  go_ret
  exact ⟨by rw [← HE.out]; rfl, _, rfl⟩
end Go.Proofs.YtimpnnhadjfijaaDoor
