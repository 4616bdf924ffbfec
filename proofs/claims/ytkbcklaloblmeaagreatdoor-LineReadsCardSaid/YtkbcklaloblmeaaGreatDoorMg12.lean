/-
  Counts of days, and the time of a count.
-/
import Derived.Test.YtkbcklaloblmeaaGreatDoorShelf
import Derived.Lib.Hide
import Derived.BigQuiet
import Derived.Test.YtkbcklaloblmeaaGreatDoorMg2
import Derived.Test.YtkbcklaloblmeaaGreatDoorMg4
namespace Go.Proofs.YtkbcklaloblmeaaGreatDoor
open Go.RowKit DateMath

theorem ret_int {k : IntKind} {a b : Int} (h : a = b) : Ending.returned (.int k a) = .returned (.int k b) := by rw [h]
set_option maxRecDepth 100000 in
set_option maxHeartbeats 4000000 in
theorem days_any (y m d : Nat) (w : World) (hy : y ≤ 9999) (hm : m ≤ 11) (hd : d ≤ 9999) :
    Calls Tryz.prog 99 #[.int .i64 y, .int .i64 m, .int .i64 d] w fun e w' => e = .returned (.int .i64 (daysT y m d)) ∧ w' = w := by
  have hf : daysT y m d = if m < 2 then (if y = 0 then daysT y m d else civN (y - 1) (m + 10) d) else civN y (m - 2) d := by
    unfold daysT
    by_cases h2 : m < 2
    · rw [if_pos h2, if_pos h2]
      by_cases h0 : y = 0
      · rw [if_pos h0]
      · rw [if_neg h0, civ_t _ _ _ (by omega) (by omega)]
    · rw [if_neg h2, if_neg h2, civ_t _ _ _ (by omega) (by omega)]
  by_cases h2 : m < 2
  · rw [if_pos h2] at hf
    have g2 : ((m : Int) - 2 < 0) := by omega
    by_cases h0 : y = 0
    · subst h0
      have HF : Hid (daysT 0 m d = (-365 : Int) + ((153 * ((m : Int) - 2 + 12) + 2) / 5 + d - 1) - 719468) := Lib.hid (by
        unfold daysT civT
        rw [if_pos h2, Int.tdiv_eq_ediv_of_nonneg (a := 153 * ((m : Int) + 10) + 2) (by omega)]
        have e1 : ((0 : Nat) : Int) - 1 = -1 := by omega
        rw [e1]
        have e2 : (-1 : Int).tdiv 400 = 0 := by decide
        have e3 : (-1 : Int).tmod 400 = -1 := by decide
        have e4 : (-1 : Int).tdiv 4 = 0 := by decide
        have e5 : (-1 : Int).tdiv 100 = 0 := by decide
        rw [e2, e3, e4, e5]
        omega)
      clear hf
      go_enter Tryz.func99, Tryz.ntmps99
      go_wp2
      go_ret
      exact ⟨ret_int HF.out.symm, rfl⟩
    · rw [if_neg h0] at hf
      have HF := Lib.hid hf
      have hy0 : 1 ≤ (y : Int) := by omega
      clear hf h0
      go_enter Tryz.func99, Tryz.ntmps99
      go_wp2
      go_ret
      refine ⟨ret_int ?_, rfl⟩
      rw [HF.out]
      unfold civN
      omega
  · rw [if_neg h2] at hf
    have HF := Lib.hid hf
    have g2 : ¬ ((m : Int) - 2 < 0) := by omega
    have g3 : 2 ≤ (m : Int) := by omega
    clear hf h2
    go_enter Tryz.func99, Tryz.ntmps99
    go_wp2
    go_ret
    refine ⟨ret_int ?_, rfl⟩
    rw [HF.out]
    unfold civN
    omega
theorem days_bd (y m d : Nat) (hy : y ≤ 9999) (hm : m ≤ 11) (hd : d ≤ 9999) : -1000000 ≤ daysT y m d ∧ daysT y m d ≤ 4000000 := by
  unfold daysT
  by_cases h2 : m < 2
  · rw [if_pos h2]
    by_cases h0 : y = 0
    · subst h0
      unfold civT
      rw [Int.tdiv_eq_ediv_of_nonneg (a := 153 * ((m : Int) + 10) + 2) (by omega)]
      have e1 : ((0 : Nat) : Int) - 1 = -1 := by omega
      rw [e1]
      have e2 : (-1 : Int).tdiv 400 = 0 := by decide
      have e3 : (-1 : Int).tmod 400 = -1 := by decide
      have e4 : (-1 : Int).tdiv 4 = 0 := by decide
      have e5 : (-1 : Int).tdiv 100 = 0 := by decide
      rw [e2, e3, e4, e5]
      omega
    · rw [civ_t _ _ _ (by omega) (by omega)]
      unfold civN
      omega
  · rw [if_neg h2, civ_t _ _ _ (by omega) (by omega)]
    unfold civN
    omega
/-- A moment's cells. -/
def momC (y mo d h mi s wd : Nat) : Array Value := #[.int .i64 y, .int .i64 mo, .int .i64 d, .int .i64 h, .int .i64 mi, .int .i64 s, .int .i64 wd]
def momV (m : Mom) : Value := .agg (momC m.year m.mon m.day m.hour m.min m.sec m.wd)
theorem wrap_in {a : Int} (h1 : -9223372036854775808 ≤ a) (h2 : a ≤ 9223372036854775807) : IntKind.i64.wrap a = a := IntWalk.i64_in _ ⟨h1, h2⟩
set_option maxRecDepth 100000 in
set_option maxHeartbeats 4000000 in
theorem seconds_any (y mo d h mi s wd : Nat) (w : World) (hy : y ≤ 9999) (hm : mo ≤ 11) (hd : d ≤ 9999) (hh : h ≤ 9999) (hmi : mi ≤ 9999) (hs : s ≤ 9999) :
    Calls Tryz.prog 80 #[.agg #[.int .i64 y, .int .i64 mo, .int .i64 d, .int .i64 h, .int .i64 mi, .int .i64 s, .int .i64 wd]] w fun e w' => e = .returned (.int .i64 (daysT y mo d * 86400 + h * 3600 + mi * 60 + s)) ∧ Spares nowhere w w' := by
  have hb := days_bd y mo d hy hm hd
  have CD : Hid (∀ w, Calls Tryz.prog 99 #[.int .i64 y, .int .i64 mo, .int .i64 d] w fun e w' => e = .returned (.int .i64 (daysT y mo d)) ∧ w' = w) := Lib.hid (fun w => days_any y mo d w hy hm hd)
  obtain ⟨D, hD⟩ : ∃ D, daysT y mo d = D := ⟨_, rfl⟩
  rw [hD] at hb CD ⊢
  clear hD
  have e1 := wrap_in (a := D * 86400) (by omega) (by omega)
  have e2 := wrap_in (a := (h : Int) * 3600) (by omega) (by omega)
  have e3 := wrap_in (a := D * 86400 + (h : Int) * 3600) (by omega) (by omega)
  have e4 := wrap_in (a := (mi : Int) * 60) (by omega) (by omega)
  have e5 := wrap_in (a := D * 86400 + (h : Int) * 3600 + (mi : Int) * 60) (by omega) (by omega)
  have e6 := wrap_in (a := D * 86400 + (h : Int) * 3600 + (mi : Int) * 60 + (s : Int)) (by omega) (by omega)
  go_enter Tryz.func80, Tryz.ntmps80
  go_wp2
  go_quiet ((go_at_call 99; exact Calls.quiet_of_same (CD.out _)))
  go_wp2
  go_ret
  exact ⟨rfl, ((Spares.refl nowhere w).alloc _).drewN _⟩
end Go.Proofs.YtkbcklaloblmeaaGreatDoor
