/-
  The three texts of a time.
  A date that is read.
  date.Text and date.Parse.
  The reference's calendar.
  The reference's two digits, and the number of digits.
  The reference's date of its parts; its rows of names.
  The reference's Parse, of the first form.
-/
import Derived.Lib.AppendIntMem
import Derived.Deep.MidRow
import Derived.Deep.RegionHeld3
import Derived.Test.YtgfinhkplijhbaaGreatDoorMg36
import Derived.Test.YtgfinhkplijhbaaGreatDoorMg39
namespace Go.Proofs.YtgfinhkplijhbaaGreatDoor
open Go.RowKit DateMath

theorem arr_len {x : ByteArray} {l : Bs} (h : arrD l = x) : x.size = l.length := by rw [← h]; exact arrD_size l
end Go.Proofs.YtgfinhkplijhbaaGreatDoor
namespace Go.Proofs.YtgfinhkplijhbaaGreatDoor
open Go.RowKit DateMath

theorem wrap_k (k c : Nat) (hk : k ≤ 140737488351232) (hc : c ≤ 100) : IntKind.i64.wrap ((k : Int) + (c : Int)) = (k : Int) + (c : Int) := wrap_in (by omega) (by omega)
end Go.Proofs.YtgfinhkplijhbaaGreatDoor
namespace Go.Proofs.YtgfinhkplijhbaaGreatDoor
open Go.RowKit DateMath

def clampN (t : Int) : Nat := (min (max t 0) 253402300799).toNat
theorem clampN_le (t : Int) : clampN t ≤ maxT := by unfold clampN maxT; omega
theorem clampN_int (t : Int) : ((clampN t : Nat) : Int) = min (max t 0) 253402300799 := by unfold clampN; omega
end Go.Proofs.YtgfinhkplijhbaaGreatDoor
namespace Go.Proofs.YtgfinhkplijhbaaGreatDoor
open Go.RowKit DateMath

set_option maxRecDepth 100000 in
set_option maxHeartbeats 4000000 in
theorem leap_any (y : Nat) (w : World) (hy : y ≤ 100000) : Calls Tryz.prog 70 #[.int .i64 y] w fun e w' => e = .returned (.bool (leapB y)) ∧ w' = w := by
  have hb : leapB y = (y % 4 == 0 && (y % 100 != 0 || y % 400 == 0)) := rfl
  by_cases h4 : y % 4 = 0
  · have a4 : ((y : Int) % 4 == 0) = true := by simpa using (by omega : (y : Int) % 4 = 0)
    by_cases h100 : y % 100 = 0
    · have a100 : ((y : Int) % 100 != 0) = false := by simpa using (by omega : (y : Int) % 100 = 0)
      by_cases h400 : y % 400 = 0
      · have a400 : ((y : Int) % 400 == 0) = true := by simpa using (by omega : (y : Int) % 400 = 0)
        have HB : Hid (leapB y = true) := Lib.hid (by rw [hb]; simp [h4, h400])
        clear hb h4 h100 h400
        go_enter Tryz.func70, Tryz.ntmps70
        go_wp2
        go_ret
        exact ⟨by rw [HB.out]; rfl, rfl⟩
      · have a400 : ((y : Int) % 400 == 0) = false := by simpa using (by omega : ¬ (y : Int) % 400 = 0)
        have HB : Hid (leapB y = false) := Lib.hid (by rw [hb]; simp [h100, h400])
        clear hb h4 h100 h400
        go_enter Tryz.func70, Tryz.ntmps70
        go_wp2
        go_ret
        exact ⟨by rw [HB.out]; rfl, rfl⟩
    · have a100 : ((y : Int) % 100 != 0) = true := by simpa using (by omega : ¬ (y : Int) % 100 = 0)
      have HB : Hid (leapB y = true) := Lib.hid (by rw [hb]; simp [h4, h100])
      clear hb h4 h100
      go_enter Tryz.func70, Tryz.ntmps70
      go_wp2
      go_ret
      exact ⟨by rw [HB.out]; rfl, rfl⟩
  · have a4 : ((y : Int) % 4 == 0) = false := by simpa using (by omega : ¬ (y : Int) % 4 = 0)
    have HB : Hid (leapB y = false) := Lib.hid (by rw [hb]; simp [h4])
    clear hb h4
    go_enter Tryz.func70, Tryz.ntmps70
    go_wp2
    go_ret
    exact ⟨by rw [HB.out]; rfl, rfl⟩
set_option maxRecDepth 100000 in
set_option maxHeartbeats 4000000 in
theorem length_any (y m : Nat) (w : World) (hy : y ≤ 100000) (hm : m ≤ 11) : Calls Tryz.prog 46 #[.int .i64 y, .int .i64 ((m + 1 : Nat) : Int)] w fun e w' => e = .returned (.int .i64 (lenN y m)) ∧ Below w.heap.size w w' := by
  have CL := Lib.hid (leap_any y w hy)
  have hl : leapN y = if leapB y then 1 else 0 := rfl
  obtain ⟨b, hb⟩ : ∃ b, leapB y = b := ⟨_, rfl⟩
  rw [hb] at CL hl
  have hlen : lenN y 1 = 28 + leapN y := rfl
  rcases (by omega : m = 0 ∨ m = 1 ∨ m = 2 ∨ m = 3 ∨ m = 4 ∨ m = 5 ∨ m = 6 ∨ m = 7 ∨ m = 8 ∨ m = 9 ∨ m = 10 ∨ m = 11) with rfl | rfl | rfl | rfl | rfl | rfl | rfl | rfl | rfl | rfl | rfl | rfl
  case inr.inl =>
    rw [hlen, hl]
    clear hb hl hlen
    cases b
    all_goals
      go_enter Tryz.func46, Tryz.ntmps46
      go_wp2_with fail
      refine CL.out.mono ?_
      rintro e w' ⟨rfl, hw'⟩
      replace hw' := hw'.symm
      subst hw'
      go_wp2
      go_ret
      exact ⟨rfl, (Spares.below0 (by first | exact Spares.refl _ _ | exact (Spares.refl _ _).alloc _))⟩
  all_goals
    clear hb hl hlen CL
    go_enter Tryz.func46, Tryz.ntmps46
    go_wp2
    go_ret
    exact ⟨rfl, (Spares.below0 (by first | exact Spares.refl _ _ | exact (Spares.refl _ _).alloc _))⟩
set_option maxRecDepth 100000 in
set_option maxHeartbeats 4000000 in
theorem ahead_any (y : Nat) (w : World) (hy : y ≤ 100000) (h1 : 1 ≤ y) : Calls Tryz.prog 45 #[.int .i64 y] w fun e w' => e = .returned (.int .i64 (aheadN y)) ∧ w' = w := by
  have HA : Hid (aheadN y = 365 * ((y : Int) - 1970) + (((y : Int) - 1) / 4 - ((y : Int) - 1) / 100 + ((y : Int) - 1) / 400) - 477) := Lib.hid rfl
  have hy1 : 1 ≤ (y : Int) := by omega
  go_enter Tryz.func45, Tryz.ntmps45
  go_wp2
  go_ret
  exact ⟨ret_int (by rw [HA.out]), rfl⟩
theorem ahead_bd (y : Nat) (h : y ≤ 100000) : -800000 ≤ aheadN y ∧ aheadN y ≤ 40000000 := by unfold aheadN; omega
end Go.Proofs.YtgfinhkplijhbaaGreatDoor
namespace Go.Proofs.YtgfinhkplijhbaaGreatDoor
open Go.RowKit DateMath

theorem digit_cut (a : Nat) (h : a ≤ 9) : (⟨#[48, 49, 50, 51, 52, 53, 54, 55, 56, 57]⟩ : ByteArray).extract a (a + 1) = arrD [dig a] := by
  match a, h with
  | 0, _ => rfl
  | 1, _ => rfl
  | 2, _ => rfl
  | 3, _ => rfl
  | 4, _ => rfl
  | 5, _ => rfl
  | 6, _ => rfl
  | 7, _ => rfl
  | 8, _ => rfl
  | 9, _ => rfl
set_option maxRecDepth 100000 in
set_option maxHeartbeats 4000000 in
theorem refTwo_any (n : Nat) (w : World) (hn : n ≤ 9999) : Calls Tryz.prog 48 #[.int .i64 n] w fun e w' => e = .returned (.string (arrD (two2 n))) ∧ ∃ k, w' = w.drewN k := by
  obtain ⟨a, ha⟩ : ∃ a, n / 10 % 10 = a := ⟨_, rfl⟩
  obtain ⟨b, hb⟩ : ∃ b, n % 10 = b := ⟨_, rfl⟩
  have la : a ≤ 9 := by omega
  have lb : b ≤ 9 := by omega
  have HE : Hid (arrD (two2 n) = arrD [dig a] ++ arrD [dig b]) := Lib.hid (by rw [arrD_app]; unfold two2; rw [ha, hb]; rfl)
  have c1 := digit_cut a la
  have c2 := digit_cut b lb
  have z1 : (arrD [dig a]).size = 1 := arrD_size _
  have z2 : (arrD [dig b]).size = 1 := arrD_size _
  obtain ⟨x1, hx1⟩ : ∃ x, arrD [dig a] = x := ⟨_, rfl⟩
  obtain ⟨x2, hx2⟩ : ∃ x, arrD [dig b] = x := ⟨_, rfl⟩
  rw [hx1] at c1 z1 HE
  rw [hx2] at c2 z2 HE
  obtain ⟨X, hX⟩ : ∃ X, x1 ++ x2 = X := ⟨_, rfl⟩
  rw [hX] at HE
  obtain ⟨r1, s1⟩ := add_str hX (by omega)
  have f1 : ((n : Int) / 10).tmod 10 = (a : Int) := by rw [Int.tmod_eq_emod_of_nonneg (by omega)]; omega
  have f2 : ((n : Int)).tmod 10 = (b : Int) := by rw [Int.tmod_eq_emod_of_nonneg (by omega)]; omega
  have f3 : ((n : Int)).tdiv 10 = (n : Int) / 10 := Int.tdiv_eq_ediv_of_nonneg (by omega)
  have p1 : 0 ≤ (a : Int) := by omega
  have p2 : 0 ≤ (b : Int) := by omega
  have p3 : (a : Int) + 1 ≤ 10 := by omega
  have p4 : (b : Int) + 1 ≤ 10 := by omega
  have n1 : ((a : Int) + 1).toNat = a + 1 := by omega
  have n2 : ((b : Int) + 1).toNat = b + 1 := by omega
  have g3 : IntKind.i64.wrap ((n : Int) / 10) = (n : Int) / 10 := wrap_in (by omega) (by omega)
  have g1 : IntKind.i64.wrap ((a : Int) + 1) = (a : Int) + 1 := wrap_k a 1 (by omega) (by decide)
  have g2 : IntKind.i64.wrap ((b : Int) + 1) = (b : Int) + 1 := wrap_k b 1 (by omega) (by decide)
  clear ha hb hx1 hx2 hX z1 z2 la lb
  go_enter Tryz.func48, Tryz.ntmps48
  go_wp2
  go_quiet (fail)
  go_wp2
  go_ret
  exact ⟨by rw [HE.out]; rfl, _, rfl⟩
end Go.Proofs.YtgfinhkplijhbaaGreatDoor
namespace Go.Proofs.YtgfinhkplijhbaaGreatDoor
open Go.RowKit DateMath

set_option maxRecDepth 100000 in
set_option maxHeartbeats 4000000 in
theorem refDays_any (w : World) : Calls Tryz.prog 47 #[] w fun e w' => e = .returned (.slice (some ⟨w.heap.size, 0, none⟩) 7 7) ∧ w' = w.alloc (.cells (day3L.map fun l => Value.string (arrD l)).toArray 9) := by
  go_enter Tryz.func47, Tryz.ntmps47
  go_wp2
  go_ret
  exact ⟨rfl, rfl⟩
set_option maxRecDepth 100000 in
set_option maxHeartbeats 4000000 in
theorem refMonths_any (w : World) : Calls Tryz.prog 49 #[] w fun e w' => e = .returned (.slice (some ⟨w.heap.size, 0, none⟩) 12 12) ∧ w' = w.alloc (.cells (monL.map fun l => Value.string (arrD l)).toArray 9) := by
  go_enter Tryz.func49, Tryz.ntmps49
  go_wp2
  go_ret
  exact ⟨rfl, rfl⟩
theorem row_cells {w : World} {g : Nat} {L : List Bs} (h : w.heap[g]? = some (.cells (L.map fun l => Value.string (arrD l)).toArray 9 (0, 0))) : ∀ k (hk : k < L.length), w.cell? ⟨g, k, none⟩ = some (.string (arrD L[k])) := by
  intro k hk
  rw [Lib.cell_of_heap h]
  simp [hk]
end Go.Proofs.YtgfinhkplijhbaaGreatDoor
namespace Go.Proofs.YtgfinhkplijhbaaGreatDoor
open Go.RowKit DateMath

def RowAt (w : World) (g : Nat) (L : List Bs) : Prop := w.heap[g]? = some (.cells (L.map fun l => Value.string (arrD l)).toArray 9 (0, 0))
theorem days_row (w : World) : Calls Tryz.prog 47 #[] w fun e w' => e = .returned (.slice (some ⟨w.heap.size, 0, none⟩) 7 7) ∧ Hid (RowAt w' w.heap.size day3L ∧ Below w.heap.size w w') :=
  (refDays_any w).mono fun e w' ⟨he, hw⟩ => ⟨he, Lib.hid ⟨by rw [hw]; exact heap_alloc_new w _, by rw [hw]; exact (Below.refl _ _).alloc (Nat.le_refl _) _⟩⟩
theorem months_row (w : World) : Calls Tryz.prog 49 #[] w fun e w' => e = .returned (.slice (some ⟨w.heap.size, 0, none⟩) 12 12) ∧ Hid (RowAt w' w.heap.size monL ∧ Below w.heap.size w w') :=
  (refMonths_any w).mono fun e w' ⟨he, hw⟩ => ⟨he, Lib.hid ⟨by rw [hw]; exact heap_alloc_new w _, by rw [hw]; exact (Below.refl _ _).alloc (Nat.le_refl _) _⟩⟩
end Go.Proofs.YtgfinhkplijhbaaGreatDoor
