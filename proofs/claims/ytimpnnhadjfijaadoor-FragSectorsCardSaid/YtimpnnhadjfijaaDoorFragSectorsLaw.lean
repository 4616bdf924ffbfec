/-
  FragSectors: how many sectors a fragment takes.
-/
import Derived.Test.YtimpnnhadjfijaaDoorFragKnown
namespace Go.Proofs.YtimpnnhadjfijaaDoor
open Go.RowKit CrcMath

theorem secF_one {n s : Nat} (h0 : 0 < n) (h : n < s) : secF n s = 1 := by
  unfold secF
  rw [Nat.mod_eq_of_lt h, Nat.div_eq_of_lt h, if_pos h0]
theorem secF_bounds (n s : Nat) (hs : 0 < s) (hn : 0 < n) : n ≤ secF n s * s ∧ 1 ≤ secF n s ∧ (secF n s - 1) * s < n ∧ secF n s ≤ n := by
  have hd := Nat.div_add_mod n s
  have hm := Nat.mod_lt n hs
  have hq : n / s ≤ n := Nat.div_le_self _ _
  obtain ⟨q, hqe⟩ : ∃ q, n / s = q := ⟨_, rfl⟩
  obtain ⟨r, hre⟩ : ∃ r, n % s = r := ⟨_, rfl⟩
  unfold secF
  rw [hqe, hre] at hd
  rw [hre] at hm
  rw [hqe] at hq
  rw [hqe, hre]
  by_cases h : 0 < r
  · rw [if_pos h, Nat.add_mul, Nat.mul_comm q s]
    refine ⟨by omega, by omega, by rw [Nat.add_sub_cancel, Nat.mul_comm q s]; omega, ?_⟩
    rcases Nat.eq_zero_or_pos q with h0 | h0
    · omega
    · have : q ≤ s * q := Nat.le_mul_of_pos_left q hs
      omega
  · obtain rfl : r = 0 := by omega
    have hq0 : 0 < q := by
      rcases Nat.eq_zero_or_pos q with h0 | h0
      · subst h0; simp at hd; omega
      · exact h0
    rw [if_neg h, Nat.mul_comm q s]
    refine ⟨by omega, hq0, ?_, hq⟩
    rw [Nat.sub_mul, Nat.mul_comm q s]
    have : s ≤ s * q := Nat.le_mul_of_pos_right s hq0
    omega

set_option maxRecDepth 100000 in
set_option maxHeartbeats 2000000 in
theorem sectorsLaw_any (p s : Int) (w : World) (hT : Steps w) (hp : p < 9223372036854775808) (hs : s < 9223372036854775808) :
    Calls Tryd.prog 6 #[.int .i64 p, .int .i64 s] w (Knows w) := by
  obtain ⟨P, hP⟩ : ∃ P : Nat, min (max p 0) 4096 = (P : Int) := ⟨(min (max p 0) 4096).toNat, by omega⟩
  obtain ⟨S, hS⟩ : ∃ S : Nat, max s 64 = (S : Int) := ⟨(max s 64).toNat, by omega⟩
  have HA := Lib.hid (fun w => sectors_any p s P S w hP hS hs)
  have HB := Lib.hid (fun w => refSectors_any p s P S w hP hS hs)
  have HK := Lib.hid (known_any w hT)
  obtain ⟨p0, hp0⟩ : ∃ p0 : Nat, (if p < 0 then 0 else p) = (p0 : Int) := ⟨(max p 0).toNat, by split <;> omega⟩
  have hp1 : (if 4096 < (p0 : Int) then 4096 else (p0 : Int)) = (P : Int) := by rw [← hp0]; rw [← hP]; (repeat' split) <;> omega
  have hs1 : (if s < 64 then 64 else s) = (S : Int) := by rw [← hS]; split <;> omega
  have hP2 : P ≤ 4096 := by omega
  have hS2 : 64 ≤ S := by omega
  obtain ⟨b1, b2, b3, b4⟩ := secF_bounds (89 + P) S (by omega) (by omega)
  have hone : 1073741824 < s → secF (89 + P) S = 1 := fun h => secF_one (by omega) (by omega)
  have hS3 : s ≤ 1073741824 → S ≤ 1073741824 := fun h => by omega
  have hm1 : max p 0 = (p0 : Int) := by rw [← hp0]; split <;> omega
  have hm2 : min (p0 : Int) 4096 = (P : Int) := by rw [← hP, hm1]
  have hm3 : max s 64 = (S : Int) := hS
  obtain ⟨n, hn⟩ : ∃ n, secF (89 + P) S = n := ⟨_, rfl⟩
  rw [hn] at b1 b2 b3 b4 hone
  have HN := Lib.hid hn
  have HON := Lib.hid hone
  have HS3 := Lib.hid hS3
  have HB1 := Lib.hid b1
  have HB3 := Lib.hid b3
  clear hP hS hT b1 b3 hn hone hS3
  go_enter Tryd.func6, Tryd.ntmps6
  go_wp2_with fail
  refine HK.out.mono ?_
  rintro e v1 ⟨rfl, hs1'⟩
  have HS1 := Lib.hid hs1'
  clear hs1' HK
  go_wp2_with fail
  refine (HA.out v1).mono ?_
  rintro e v2 ⟨rfl, rfl⟩
  rw [HN.out]
  by_cases hbig : 1073741824 < s
  · have h1 : (n : Int) = 1 := by rw [HON.out hbig]; rfl
    go_wp2
    go_ret
    exact ⟨rfl, HS1.out⟩
  · have hS4 := HS3.out (by omega)
    obtain ⟨X, hX⟩ : ∃ X, n * S = X := ⟨_, rfl⟩
    obtain ⟨Y, hY⟩ : ∃ Y, (n - 1) * S = Y := ⟨_, rfl⟩
    have hXm : X ≤ 4186 * 1073741824 := by rw [← hX]; exact Nat.mul_le_mul (by omega) hS4
    have h1 : (n : Int) * (S : Int) = (X : Int) := by rw [← hX]; simp
    have h2 : ((n : Int) - 1) * (S : Int) = (Y : Int) := by
      rw [← hY, show (n : Int) - 1 = ((n - 1 : Nat) : Int) by omega]; simp
    have h3 : (89 : Int) + (P : Int) ≤ (X : Int) := by have := HB1.out; omega
    have h4 : (Y : Int) < (89 : Int) + (P : Int) := by have := HB3.out; omega
    have h5 : (Y : Int) ≤ 4186 * 1073741824 := by omega
    have h6 : (1 : Int) ≤ (n : Int) := by omega
    have h7 : (n : Int) ≤ 4186 := by omega
    clear hX hY
    go_wp2_with fail
    refine (HB.out v1).mono ?_
    rintro e v3 ⟨rfl, rfl⟩
    rw [HN.out]
    go_wp2
    go_ret
    exact ⟨rfl, HS1.out⟩
end Go.Proofs.YtimpnnhadjfijaaDoor
