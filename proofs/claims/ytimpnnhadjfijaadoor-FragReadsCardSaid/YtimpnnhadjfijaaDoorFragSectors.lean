/-
  How many sectors a fragment takes: the program's and the reference's.
-/
import Derived.Test.YtimpnnhadjfijaaDoorFragReader
namespace Go.Proofs.YtimpnnhadjfijaaDoor
open Go.RowKit

def secF (n s : Nat) : Nat := if 0 < n % s then n / s + 1 else n / s
def SecPost (r : Nat) (w : World) (e : Ending) (w' : World) : Prop := e = .returned (.int .i64 r) ∧ w = w'
def Bound (p : Int) (lo hi : Int) : Prop := lo ≤ p ∧ p ≤ hi

set_option maxHeartbeats 1000000 in
theorem sectors_any (p s : Int) (P S : Nat) (w : World) (hP : min (max p 0) 4096 = (P : Int)) (hS : max s 64 = (S : Int)) (hs : s < 9223372036854775808) :
    Calls Tryd.prog 21 #[.int .i64 p, .int .i64 s] w (SecPost (secF (89 + P) S) w) := by
  have hP2 : P ≤ 4096 := by omega
  have hS2 : 64 ≤ S := by omega
  have hS3 : S < 9223372036854775808 := by omega
  obtain ⟨p0, hp0⟩ : ∃ p0 : Nat, (if p < 0 then 0 else p) = (p0 : Int) := ⟨(max p 0).toNat, by split <;> omega⟩
  have hp1 : (if 4096 < (p0 : Int) then 4096 else (p0 : Int)) = (P : Int) := by rw [← hp0]; rw [← hP]; (repeat' split) <;> omega
  have hs1 : (if s < 64 then 64 else s) = (S : Int) := by rw [← hS]; split <;> omega
  clear hP hS
  obtain ⟨n, hn⟩ : ∃ n, 89 + P = n := ⟨_, rfl⟩
  have hn1 : (89 : Int) + (P : Int) = (n : Int) := by omega
  have hn2 : n ≤ 4185 := by omega
  obtain ⟨q, hq⟩ : ∃ q, n / S = q := ⟨_, rfl⟩
  have hq2 : q ≤ n := by rw [← hq]; exact Nat.div_le_self _ _
  have hq1 : (n : Int) / (S : Int) = (q : Int) := by rw [← hq]; simp
  have hq3 : (n : Int).tdiv (S : Int) = (q : Int) := by rw [Int.tdiv_eq_ediv_of_nonneg (by omega)]; exact hq1
  obtain ⟨r, hr⟩ : ∃ r, n % S = r := ⟨_, rfl⟩
  have hr1 : (n : Int) % (S : Int) = (r : Int) := by rw [← hr]; simp
  have hr3 : (n : Int).tmod (S : Int) = (r : Int) := by rw [Int.tmod_eq_emod_of_nonneg (by omega)]; exact hr1
  have HE : Hid (secF (89 + P) S = if 0 < r then q + 1 else q) := Lib.hid (by unfold secF; rw [hn, hq, hr])
  have hr2 : r ≤ n := by rw [← hr]; exact Nat.mod_le _ _
  clear hn hq hr
  rw [HE.out]
  by_cases h0 : 0 < r
  · have i1 : (0 : Int) < (r : Int) := by omega
    go_enter Tryd.func21, Tryd.ntmps21
    go_wp2
    go_ret
    exact ⟨rfl, rfl⟩
  · have i1 : ¬ (0 : Int) < (r : Int) := by omega
    go_enter Tryd.func21, Tryd.ntmps21
    go_wp2
    go_ret
    exact ⟨rfl, rfl⟩

theorem secF_step {n s : Nat} (hs : 0 < s) (hn : 0 < n) : secF n s = secF (n - min s n) s + 1 := by
  unfold secF
  rcases Nat.lt_or_ge n s with h | h
  · rw [Nat.min_eq_right (Nat.le_of_lt h), Nat.sub_self, Nat.mod_eq_of_lt h, if_pos hn, Nat.div_eq_of_lt h]
    simp
  · rw [Nat.min_eq_left h, Nat.mod_eq_sub_mod h, Nat.div_eq_sub_div hs h]
    split <;> rfl

set_option maxHeartbeats 1000000 in
theorem refSectors_any (p s : Int) (P S : Nat) (w : World) (hP : min (max p 0) 4096 = (P : Int)) (hS : max s 64 = (S : Int)) (hs : s < 9223372036854775808) :
    Calls Tryd.prog 22 #[.int .i64 p, .int .i64 s] w (SecPost (secF (89 + P) S) w) := by
  have hP2 : P ≤ 4096 := by omega
  have hS2 : 64 ≤ S := by omega
  have hS3 : S < 9223372036854775808 := by omega
  obtain ⟨p0, hp0⟩ : ∃ p0 : Nat, (if p < 0 then 0 else p) = (p0 : Int) := ⟨(max p 0).toNat, by split <;> omega⟩
  have hp1 : (if 4096 < (p0 : Int) then 4096 else (p0 : Int)) = (P : Int) := by rw [← hp0]; rw [← hP]; (repeat' split) <;> omega
  have hs1 : (if s < 64 then 64 else s) = (S : Int) := by rw [← hS]; split <;> omega
  clear hP hS
  obtain ⟨n, hn⟩ : ∃ n, 89 + P = n := ⟨_, rfl⟩
  have hn1 : (89 : Int) + (P : Int) = (n : Int) := by omega
  have hn2 : n ≤ 4185 := by omega
  rw [hn]
  clear hn
  go_enter Tryd.func22, Tryd.ntmps22
  go_wp2
  go_loopw [5, 6] (fun c l wr => ∃ k m : Nat, c = .int .i64 k ∧ l = .int .i64 m ∧ k + m ≤ n ∧ Hid (secF n S = k + secF m S) ∧ wr = w) (fun _ l _ => (intOf l).toNat)
  case atStart => exact ⟨0, n, rfl, rfl, by omega, Lib.hid (by omega), rfl⟩
  case round =>
    obtain ⟨k, m, rfl, rfl, hkm, HE, rfl⟩ := hrel
    by_cases hm : 0 < m
    · have hst := secF_step (n := m) (s := S) (by omega) hm
      obtain ⟨t, ht⟩ : ∃ t, min S m = t := ⟨_, rfl⟩
      have ht1 : (if m < S then (m : Int) else (S : Int)) = (t : Int) := by split <;> omega
      have ht2 : t ≤ m := by omega
      have ht3 : 0 < t := by omega
      obtain ⟨u, hu⟩ : ∃ u, m - t = u := ⟨_, rfl⟩
      rw [ht, hu] at hst
      have hu1 : (m : Int) - (t : Int) = (u : Int) := by omega
      have HN : Hid (secF n S = k + 1 + secF u S) := Lib.hid (by rw [HE.out, hst]; omega)
      have i1 : (0 : Int) < (m : Int) := by omega
      clear hst ht
      go_wp2
      go_roundw
      case rel => exact ⟨k + 1, u, by go_num, rfl, by omega, HN, by trivial⟩
      case measure => simp [intOf]; omega
    · obtain rfl : m = 0 := by omega
      have HF : Hid (secF n S = k) := Lib.hid (by rw [HE.out]; unfold secF; simp)
      go_wp2
      go_ret
      exact ⟨by rw [HF.out]; rfl, rfl⟩
end Go.Proofs.YtimpnnhadjfijaaDoor
