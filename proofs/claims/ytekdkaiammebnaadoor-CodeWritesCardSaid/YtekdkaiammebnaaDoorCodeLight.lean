/-
  ambryhelp.Light: few fields, none long.
-/
import Derived.Test.YtekdkaiammebnaaDoorFieldRows
namespace Go.Proofs.YtekdkaiammebnaaDoor
open Go.RowKit

def Lit1 (fs : List (ByteArray × ByteArray)) (most : Nat) (w : World) (e : Ending) (w' : World) : Prop :=
  ∃ b : Bool, e = .returned (.bool b) ∧ w' = w ∧ (b = true → fs.length ≤ most ∧ ∀ j (h : j < fs.length), (fs[j]).1.size ≤ 300 ∧ (fs[j]).2.size ≤ 300)
set_option maxRecDepth 100000 in
set_option maxHeartbeats 1000000 in
theorem light_any (fs : List (ByteArray × ByteArray)) (a : Option Addr) (c n most : Nat) (w : World) (hat : FieldsAt w a fs) (hn : n = fs.length) (hn63 : n < 9223372036854775808) (hm : most < 9223372036854775808) (hsz : ∀ j (h : j < fs.length), (fs[j]).1.size ≤ 9223372036854775807 ∧ (fs[j]).2.size ≤ 9223372036854775807) :
    Calls Tryd.prog 31 #[.slice a n c, .int .i64 most] w (Lit1 fs most w) := by
  have HA := Lib.hid hat
  have HN := Lib.hid hn
  have HSZ := Lib.hid hsz
  clear hat hn hsz
  by_cases hbig : most < n
  · have i1 : (most : Int) < (n : Int) := by omega
    go_enter Tryd.func31, Tryd.ntmps31
    go_wp2
    go_ret
    exact ⟨false, rfl, rfl, fun h => by cases h⟩
  have i1 : ¬ (most : Int) < (n : Int) := by omega
  go_enter Tryd.func31, Tryd.ntmps31
  go_wp2
  go_loopw [5] (fun i wr => ∃ k : Nat, k ≤ n ∧ i = .int .i64 k ∧ wr = w ∧ Hid (∀ j (h : j < fs.length), j < k → (fs[j]).1.size ≤ 300 ∧ (fs[j]).2.size ≤ 300)) (fun i _ => n - (intOf i).toNat)
  case atStart => exact ⟨0, by omega, rfl, rfl, Lib.hid (fun j _ h => by omega)⟩
  case round =>
    obtain ⟨k, hk, rfl, rfl, HSM⟩ := hrel
    by_cases hlt : k < n
    · have hk2 : k < fs.length := by have := HN.out; omega
      obtain ⟨b, off, rfl, hc0, hc1⟩ := HA.out k hk2
      have hs := HSZ.out k hk2
      obtain ⟨s1, hs1⟩ : ∃ s, (fs[k]).1 = s := ⟨_, rfl⟩
      obtain ⟨s2, hs2⟩ : ∃ s, (fs[k]).2 = s := ⟨_, rfl⟩
      rw [hs1] at hc0 hs
      rw [hs2] at hc1 hs
      obtain ⟨z1, hz1⟩ : ∃ z, s1.size = z := ⟨_, rfl⟩
      obtain ⟨z2, hz2⟩ : ∃ z, s2.size = z := ⟨_, rfl⟩
      rw [hz1, hz2] at hs
      have HP := Lib.hid (show (fs[k]).1.size = z1 ∧ (fs[k]).2.size = z2 from ⟨by rw [hs1, hz1], by rw [hs2, hz2]⟩)
      have j1 : (k : Int) < (n : Int) := by omega
      clear hs1 hs2
      by_cases h1 : 300 < z1
      · have j3 : (300 : Int) < (z1 : Int) := by omega
        go_wp2
        go_ret
        exact ⟨false, rfl, rfl, fun h => by cases h⟩
      by_cases h2 : 300 < z2
      · have j3 : ¬ (300 : Int) < (z1 : Int) := by omega
        have j4 : (300 : Int) < (z2 : Int) := by omega
        go_wp2
        go_ret
        exact ⟨false, rfl, rfl, fun h => by cases h⟩
      have j3 : ¬ (300 : Int) < (z1 : Int) := by omega
      have j4 : ¬ (300 : Int) < (z2 : Int) := by omega
      go_wp2
      go_roundw
      case rel =>
        refine ⟨k + 1, by omega, by go_num, trivial, Lib.hid (fun j h hj => ?_)⟩
        by_cases e : j = k
        · subst e; rw [HP.out.1, HP.out.2]; omega
        · exact HSM.out j h (by omega)
      case measure => simp [intOf]; omega
    · obtain rfl : k = n := by omega
      go_wp2
      go_ret
      exact ⟨true, rfl, rfl, fun _ => ⟨by have := HN.out; omega, fun j h => HSM.out j h (by have := HN.out; omega)⟩⟩
end Go.Proofs.YtekdkaiammebnaaDoor
