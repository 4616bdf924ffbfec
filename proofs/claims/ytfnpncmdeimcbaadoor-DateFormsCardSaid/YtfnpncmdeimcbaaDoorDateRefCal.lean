/-
  The reference's calendar.
-/
import Derived.Test.YtfnpncmdeimcbaaDoorDateText
import Derived.Test.YtfnpncmdeimcbaaDoorDateRef
namespace Go.Proofs.YtfnpncmdeimcbaaDoor
open Go.RowKit DateMath

set_option maxRecDepth 100000 in
set_option maxHeartbeats 4000000 in
theorem leap_any (y : Nat) (w : World) (hy : y ≤ 100000) : Calls Tryd.prog 39 #[.int .i64 y] w fun e w' => e = .returned (.bool (leapB y)) ∧ w' = w := by
  have hb : leapB y = (y % 4 == 0 && (y % 100 != 0 || y % 400 == 0)) := rfl
  by_cases h4 : y % 4 = 0
  · have a4 : ((y : Int) % 4 == 0) = true := by simpa using (by omega : (y : Int) % 4 = 0)
    by_cases h100 : y % 100 = 0
    · have a100 : ((y : Int) % 100 != 0) = false := by simpa using (by omega : (y : Int) % 100 = 0)
      by_cases h400 : y % 400 = 0
      · have a400 : ((y : Int) % 400 == 0) = true := by simpa using (by omega : (y : Int) % 400 = 0)
        have HB : Hid (leapB y = true) := Lib.hid (by rw [hb]; simp [h4, h400])
        clear hb h4 h100 h400
        go_enter Tryd.func39, Tryd.ntmps39
        go_wp2
        go_ret
        exact ⟨by rw [HB.out]; rfl, rfl⟩
      · have a400 : ((y : Int) % 400 == 0) = false := by simpa using (by omega : ¬ (y : Int) % 400 = 0)
        have HB : Hid (leapB y = false) := Lib.hid (by rw [hb]; simp [h100, h400])
        clear hb h4 h100 h400
        go_enter Tryd.func39, Tryd.ntmps39
        go_wp2
        go_ret
        exact ⟨by rw [HB.out]; rfl, rfl⟩
    · have a100 : ((y : Int) % 100 != 0) = true := by simpa using (by omega : ¬ (y : Int) % 100 = 0)
      have HB : Hid (leapB y = true) := Lib.hid (by rw [hb]; simp [h4, h100])
      clear hb h4 h100
      go_enter Tryd.func39, Tryd.ntmps39
      go_wp2
      go_ret
      exact ⟨by rw [HB.out]; rfl, rfl⟩
  · have a4 : ((y : Int) % 4 == 0) = false := by simpa using (by omega : ¬ (y : Int) % 4 = 0)
    have HB : Hid (leapB y = false) := Lib.hid (by rw [hb]; simp [h4])
    clear hb h4
    go_enter Tryd.func39, Tryd.ntmps39
    go_wp2
    go_ret
    exact ⟨by rw [HB.out]; rfl, rfl⟩
set_option maxRecDepth 100000 in
set_option maxHeartbeats 4000000 in
theorem length_any (y m : Nat) (w : World) (hy : y ≤ 100000) (hm : m ≤ 11) : Calls Tryd.prog 22 #[.int .i64 y, .int .i64 ((m + 1 : Nat) : Int)] w fun e w' => e = .returned (.int .i64 (lenN y m)) ∧ Below w.heap.size w w' := by
  have CL := Lib.hid (leap_any y w hy)
  have hl : leapN y = if leapB y then 1 else 0 := rfl
  obtain ⟨b, hb⟩ : ∃ b, leapB y = b := ⟨_, rfl⟩
  rw [hb] at CL hl
  have hlen : lenN y 1 = 28 + leapN y := rfl
  rcases (by omega : m = 0 ∨ m = 1 ∨ m = 2 ∨ m = 3 ∨ m = 4 ∨ m = 5 ∨ m = 6 ∨ m = 7 ∨ m = 8 ∨ m = 9 ∨ m = 10 ∨ m = 11) with rfl | rfl | rfl | rfl | rfl | rfl | rfl | rfl | rfl | rfl | rfl | rfl
  case inr.inl =>
    rw [hlen, hl]
    clear hb hl hlen
    cases b
    all_goals
      go_enter Tryd.func22, Tryd.ntmps22
      go_wp2_with fail
      refine CL.out.mono ?_
      rintro e w' ⟨rfl, hw'⟩
      replace hw' := hw'.symm
      subst hw'
      go_wp2
      go_ret
      exact ⟨rfl, (Spares.below0 (by first | exact Spares.refl _ _ | exact (Spares.refl _ _).alloc _))⟩
  all_goals
    clear hb hl hlen CL
    go_enter Tryd.func22, Tryd.ntmps22
    go_wp2
    go_ret
    exact ⟨rfl, (Spares.below0 (by first | exact Spares.refl _ _ | exact (Spares.refl _ _).alloc _))⟩
set_option maxRecDepth 100000 in
set_option maxHeartbeats 4000000 in
theorem ahead_any (y : Nat) (w : World) (hy : y ≤ 100000) (h1 : 1 ≤ y) : Calls Tryd.prog 21 #[.int .i64 y] w fun e w' => e = .returned (.int .i64 (aheadN y)) ∧ w' = w := by
  have HA : Hid (aheadN y = 365 * ((y : Int) - 1970) + (((y : Int) - 1) / 4 - ((y : Int) - 1) / 100 + ((y : Int) - 1) / 400) - 477) := Lib.hid rfl
  have hy1 : 1 ≤ (y : Int) := by omega
  go_enter Tryd.func21, Tryd.ntmps21
  go_wp2
  go_ret
  exact ⟨ret_int (by rw [HA.out]), rfl⟩
theorem cum_bd (y : Nat) : ∀ m : Nat, m ≤ 12 → 0 ≤ cumN y m ∧ cumN y m ≤ 31 * m
  | 0, _ => ⟨Int.le_refl _, Int.le_refl _⟩
  | m + 1, h => by
    have ih := cum_bd y m (by omega)
    have l1 : lenN y m ≤ 31 := by unfold lenN; split <;> first | omega | (have := leap_cases y; omega)
    show 0 ≤ cumN y m + lenN y m ∧ cumN y m + lenN y m ≤ 31 * ((m + 1 : Nat) : Int)
    omega
theorem ahead_bd (y : Nat) (h : y ≤ 100000) : -800000 ≤ aheadN y ∧ aheadN y ≤ 40000000 := by unfold aheadN; omega
set_option maxRecDepth 100000 in
set_option maxHeartbeats 4000000 in
theorem day_any (y m d : Nat) (w : World) (hy : y ≤ 100000) (h1 : 1 ≤ y) (hm : m ≤ 11) (hd : d ≤ 100000) : Calls Tryd.prog 41 #[.int .i64 y, .int .i64 ((m + 1 : Nat) : Int), .int .i64 d] w fun e w' => e = .returned (.int .i64 (dayN y m d)) ∧ Below w.heap.size w w' := by
  have CA := Lib.hid (ahead_any y w hy h1)
  have hab := ahead_bd y hy
  have HDN : Hid (dayN y m d = aheadN y + cumN y m + d - 1) := Lib.hid rfl
  obtain ⟨A, hA⟩ : ∃ A, aheadN y = A := ⟨_, rfl⟩
  rw [hA] at CA hab HDN
  clear hA
  go_enter Tryd.func41, Tryd.ntmps41
  go_wp2_with fail
  refine CA.out.mono ?_
  rintro e w' ⟨rfl, hw'⟩
  replace hw' := hw'.symm
  subst hw'
  go_wp2_with fail
  go_loopw [7, 8] (fun n i wr => ∃ k : Nat, k ≤ m ∧ i = .int .i64 ((k + 1 : Nat) : Int) ∧ n = .int .i64 (A + cumN y k) ∧ Hid (Below w.heap.size w wr)) (fun _ i _ => 12 - (intOf i).toNat)
  case atStart => exact ⟨0, Nat.zero_le _, rfl, by simp [cumN], Lib.hid (Below.refl _ _)⟩
  case round =>
    obtain ⟨k, hk, rfl, rfl, HB⟩ := hrel
    have hcb := cum_bd y k (by omega)
    by_cases hlt : k < m
    · have hcb2 := cum_bd y (k + 1) (by omega)
      have HC : Hid (cumN y (k + 1) = cumN y k + lenN y k) := Lib.hid rfl
      have hlb : lenN y k ≤ 31 := by unfold lenN; split <;> first | omega | (have := leap_cases y; omega)
      have CL := Lib.hid (length_any y k wr hy (by omega))
      obtain ⟨c, hc⟩ : ∃ c, cumN y k = c := ⟨_, rfl⟩
      obtain ⟨ln, hln⟩ : ∃ ln, lenN y k = ln := ⟨_, rfl⟩
      rw [hc] at hcb HC ⊢
      rw [hln] at HC hlb CL
      have i1 : (k : Int) + 1 < (m : Int) + 1 := by omega
      clear hc hln hcb2
      go_wp2_with fail
      refine CL.out.mono ?_
      rintro e w2 ⟨rfl, hb2⟩
      have HB2 := Lib.hid (HB.out.trans (hb2.mono HB.out.size))
      clear hb2
      go_wp2
      go_roundw
      case rel => exact ⟨k + 1, by omega, by go_num, by rw [HC.out]; go_num, HB2⟩
      case measure => simp [intOf]; omega
    · obtain rfl : k = m := by omega
      have i1 : ¬ (k : Int) + 1 < (k : Int) + 1 := by omega
      obtain ⟨c, hc⟩ : ∃ c, cumN y k = c := ⟨_, rfl⟩
      rw [hc] at hcb HDN ⊢
      clear hc
      go_wp2
      go_ret
      exact ⟨ret_int (by rw [HDN.out]; omega), HB.out⟩
end Go.Proofs.YtfnpncmdeimcbaaDoor
