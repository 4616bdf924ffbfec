/-
  Which bytes need no escape; the byte that two digits say: in the program and in the reference.
-/
import Derived.Test.YtokgpmelhmaokaaDoorNormHex
namespace Go.Proofs.YtokgpmelhmaokaaDoor
open Go.RowKit HeadMath NormMath

def pIdx (c : UInt8) : Int := Lib.indexByte plainMarks c
theorem mark_or {c : UInt8} (h : plainMarks.contains c = true) : c = 45 ∨ c = 46 ∨ c = 95 ∨ c = 126 := by
  simpa [plainMarks] using h
theorem pIdx_yes {c : UInt8} (h : plainMarks.contains c = true) : 0 ≤ pIdx c := by
  rcases mark_or h with rfl | rfl | rfl | rfl <;> decide
theorem pIdx_no {c : UInt8} (h : plainMarks.contains c = false) : pIdx c < 0 := by
  simp [plainMarks] at h
  obtain ⟨h1, h2, h3, h4⟩ := h
  have e1 : ((45 : UInt8) == c) = false := by simpa using fun e => h1 e.symm
  have e2 : ((46 : UInt8) == c) = false := by simpa using fun e => h2 e.symm
  have e3 : ((95 : UInt8) == c) = false := by simpa using fun e => h3 e.symm
  have e4 : ((126 : UInt8) == c) = false := by simpa using fun e => h4 e.symm
  simp [pIdx, plainMarks, Lib.indexByte, e1, e2, e3, e4]
theorem indexOf_plain (c : UInt8) (w : World) :
    Calls Tryd.prog 37 #[.string { data := #[45, 46, 95, 126] }, .int .u8 c.toNat] w fun e w' => e = .returned (.int .i64 (pIdx c)) ∧ w = w' := by
  refine (Tryd.strings_IndexByte _ _ w).mono ?_
  rintro e w' ⟨rfl, rfl⟩
  refine ⟨?_, rfl⟩
  unfold pIdx plainMarks
  simp

set_option maxHeartbeats 1000000 in
theorem plain_any (c : UInt8) (w : World) : Calls Tryd.prog 20 #[.int .u8 c.toNat] w fun e w' => e = .returned (.bool (plainB c)) ∧ w = w' := by
  have hl := @letter_any c
  have hd := @digit_any c
  have hi := @indexOf_plain c
  cases h1 : letterB c with
  | true =>
    have HP := Lib.hid (show plainB c = true by unfold plainB; rw [h1]; rfl)
    rw [h1] at hl
    go_enter Tryd.func20, Tryd.ntmps20
    go_wp2_with (first | (refine (hl _).mono ?_; rintro e w1 ⟨rfl, rfl⟩) | (refine (hd _).mono ?_; rintro e w1 ⟨rfl, rfl⟩) | (refine (hi _).mono ?_; rintro e w1 ⟨rfl, rfl⟩))
    go_ret
    exact ⟨ret_bool (by rw [HP.out]), rfl⟩
  | false =>
    rw [h1] at hl
    cases h2 : digitB c with
    | true =>
      have HP := Lib.hid (show plainB c = true by unfold plainB; rw [h1, h2]; rfl)
      rw [h2] at hd
      go_enter Tryd.func20, Tryd.ntmps20
      go_wp2_with (first | (refine (hl _).mono ?_; rintro e w1 ⟨rfl, rfl⟩) | (refine (hd _).mono ?_; rintro e w1 ⟨rfl, rfl⟩) | (refine (hi _).mono ?_; rintro e w1 ⟨rfl, rfl⟩))
      go_ret
      exact ⟨ret_bool (by rw [HP.out]), rfl⟩
    | false =>
      rw [h2] at hd
      cases h3 : plainMarks.contains c with
      | true =>
        have HP := Lib.hid (show plainB c = true by unfold plainB; rw [h3]; simp)
        have hx := pIdx_yes h3
        generalize pIdx c = x at hi hx
        go_enter Tryd.func20, Tryd.ntmps20
        go_wp2_with (first | (refine (hl _).mono ?_; rintro e w1 ⟨rfl, rfl⟩) | (refine (hd _).mono ?_; rintro e w1 ⟨rfl, rfl⟩) | (refine (hi _).mono ?_; rintro e w1 ⟨rfl, rfl⟩))
        go_ret
        exact ⟨ret_bool (by (rw [HP.out]) <;> first | rfl | exact decide_eq_true hx), rfl⟩
      | false =>
        have HP := Lib.hid (show plainB c = false by unfold plainB; rw [h1, h2, h3]; rfl)
        have hx := pIdx_no h3
        generalize pIdx c = x at hi hx
        go_enter Tryd.func20, Tryd.ntmps20
        go_wp2_with (first | (refine (hl _).mono ?_; rintro e w1 ⟨rfl, rfl⟩) | (refine (hd _).mono ?_; rintro e w1 ⟨rfl, rfl⟩) | (refine (hi _).mono ?_; rintro e w1 ⟨rfl, rfl⟩))
        go_ret
        exact ⟨ret_bool (by (rw [HP.out]) <;> first | rfl | exact decide_eq_false (by omega)), rfl⟩

def hexI (c : UInt8) : Int := match hexV c with
  | some a => a
  | none => -1
set_option maxHeartbeats 1000000 in
theorem refHex_any (c : UInt8) (w : World) : Calls Tryd.prog 24 #[.int .u8 c.toNat] w fun e w' => e = .returned (.int .i64 (hexI c)) ∧ w = w' := by
  have hc := u8_lt c
  rcases (show c.toNat < 48 ∨ (48 ≤ c.toNat ∧ c.toNat ≤ 57) ∨ (57 < c.toNat ∧ c.toNat < 65) ∨ (65 ≤ c.toNat ∧ c.toNat ≤ 70) ∨ (70 < c.toNat ∧ c.toNat < 97) ∨ (97 ≤ c.toNat ∧ c.toNat ≤ 102) ∨ 102 < c.toNat from by omega) with h | h | h | h | h | h | h
  · have HV := Lib.hid (show hexI c = -1 by unfold hexI; rw [hex_none (by omega) (by omega) (by omega)])
    have g2 : (c.toNat : Int) < 48 := by omega
    clear h
    go_enter Tryd.func24, Tryd.ntmps24
    go_wp2
    go_ret
    exact ⟨ret_int (by (rw [HV.out]) <;> first | rfl | omega | (simp only [IntKind.wrap_u8']; omega)), rfl⟩
  · have HV := Lib.hid (show hexI c = ((c.toNat - 48 : Nat) : Int) by unfold hexI; rw [hex_digit h])
    have g1 : (48 : Int) ≤ c.toNat := by omega
    have g2 : (c.toNat : Int) ≤ 57 := by omega
    clear h
    go_enter Tryd.func24, Tryd.ntmps24
    go_wp2
    go_ret
    exact ⟨ret_int (by (rw [HV.out]) <;> first | rfl | omega | (simp only [IntKind.wrap_u8']; omega)), rfl⟩
  · have HV := Lib.hid (show hexI c = -1 by unfold hexI; rw [hex_none (by omega) (by omega) (by omega)])
    have g1 : (57 : Int) < c.toNat := by omega
    have g2 : (c.toNat : Int) < 65 := by omega
    clear h
    go_enter Tryd.func24, Tryd.ntmps24
    go_wp2
    go_ret
    exact ⟨ret_int (by (rw [HV.out]) <;> first | rfl | omega | (simp only [IntKind.wrap_u8']; omega)), rfl⟩
  · have HV := Lib.hid (show hexI c = ((c.toNat - 55 : Nat) : Int) by unfold hexI; rw [hex_great h])
    have g1 : (65 : Int) ≤ c.toNat := by omega
    have g2 : (c.toNat : Int) ≤ 70 := by omega
    clear h
    go_enter Tryd.func24, Tryd.ntmps24
    go_wp2
    go_ret
    exact ⟨ret_int (by (rw [HV.out]) <;> first | rfl | omega | (simp only [IntKind.wrap_u8']; omega)), rfl⟩
  · have HV := Lib.hid (show hexI c = -1 by unfold hexI; rw [hex_none (by omega) (by omega) (by omega)])
    have g1 : (70 : Int) < c.toNat := by omega
    have g2 : (c.toNat : Int) < 97 := by omega
    clear h
    go_enter Tryd.func24, Tryd.ntmps24
    go_wp2
    go_ret
    exact ⟨ret_int (by (rw [HV.out]) <;> first | rfl | omega | (simp only [IntKind.wrap_u8']; omega)), rfl⟩
  · have HV := Lib.hid (show hexI c = ((c.toNat - 87 : Nat) : Int) by unfold hexI; rw [hex_small h])
    have g1 : (97 : Int) ≤ c.toNat := by omega
    have g2 : (c.toNat : Int) ≤ 102 := by omega
    clear h
    go_enter Tryd.func24, Tryd.ntmps24
    go_wp2
    go_ret
    exact ⟨ret_int (by (rw [HV.out]) <;> first | rfl | omega | (simp only [IntKind.wrap_u8']; omega)), rfl⟩
  · have HV := Lib.hid (show hexI c = -1 by unfold hexI; rw [hex_none (by omega) (by omega) (by omega)])
    have g1 : (102 : Int) < c.toNat := by omega
    clear h
    go_enter Tryd.func24, Tryd.ntmps24
    go_wp2
    go_ret
    exact ⟨ret_int (by (rw [HV.out]) <;> first | rfl | omega | (simp only [IntKind.wrap_u8']; omega)), rfl⟩

theorem plain_letters {c : UInt8} (h : (97 ≤ c.toNat ∧ c.toNat ≤ 122) ∨ (65 ≤ c.toNat ∧ c.toNat ≤ 90) ∨ (48 ≤ c.toNat ∧ c.toNat ≤ 57)) : plainB c = true := by
  unfold plainB
  rw [letterB_eq]
  unfold digitB
  simp only [Bool.or_eq_true, decide_eq_true_eq]
  omega
theorem plain_marks {c : UInt8} (h : ¬ (97 ≤ c.toNat ∧ c.toNat ≤ 122)) (h2 : ¬ (65 ≤ c.toNat ∧ c.toNat ≤ 90)) (h3 : ¬ (48 ≤ c.toNat ∧ c.toNat ≤ 57)) : plainB c = plainMarks.contains c := by
  unfold plainB
  rw [letterB_eq]
  unfold digitB
  rw [decide_eq_false h, decide_eq_false h2, decide_eq_false h3]; rfl
set_option maxHeartbeats 1000000 in
theorem refPlain_any (c : UInt8) (w : World) : Calls Tryd.prog 25 #[.int .u8 c.toNat] w fun e w' => e = .returned (.bool (plainB c)) ∧ w = w' := by
  cases hm : plainMarks.contains c with
  | true =>
    rcases mark_or hm with rfl | rfl | rfl | rfl
    all_goals
      clear hm
      go_enter Tryd.func25, Tryd.ntmps25
      go_wp2
      go_ret
      exact ⟨rfl, rfl⟩
  | false =>
    have hn := hm
    simp [plainMarks] at hn
    obtain ⟨n1, n2, n3, n4⟩ := hn
    have e1 : ((c.toNat : Int) == 45) = false := (u8_beq_lit c 45 (by decide)).trans (by simpa using n1)
    have e2 : ((c.toNat : Int) == 46) = false := (u8_beq_lit c 46 (by decide)).trans (by simpa using n2)
    have e3 : ((c.toNat : Int) == 95) = false := (u8_beq_lit c 95 (by decide)).trans (by simpa using n3)
    have e4 : ((c.toNat : Int) == 126) = false := (u8_beq_lit c 126 (by decide)).trans (by simpa using n4)
    clear n1 n2 n3 n4
    have hc := u8_lt c
    rcases (show c.toNat < 48 ∨ (48 ≤ c.toNat ∧ c.toNat ≤ 57) ∨ (57 < c.toNat ∧ c.toNat < 65) ∨ (65 ≤ c.toNat ∧ c.toNat ≤ 90) ∨ (90 < c.toNat ∧ c.toNat < 97) ∨ (97 ≤ c.toNat ∧ c.toNat ≤ 122) ∨ 122 < c.toNat from by omega) with h | h | h | h | h | h | h
    · have HV := Lib.hid (show plainB c = false from (plain_marks (by omega) (by omega) (by omega)).trans hm)
      have g2 : (c.toNat : Int) < 48 := by omega
      clear h
      go_enter Tryd.func25, Tryd.ntmps25
      go_wp2
      go_ret
      exact ⟨ret_bool (by (rw [HV.out]) <;> first | rfl | (simp only [decide_eq_false_iff_not]; omega) | (simp only [Bool.or_eq_false_iff, decide_eq_false_iff_not]; omega)), rfl⟩
    · have HV := Lib.hid (plain_letters (c := c) (by omega))
      have g1 : (48 : Int) ≤ c.toNat := by omega
      have g2 : (c.toNat : Int) ≤ 57 := by omega
      clear h
      go_enter Tryd.func25, Tryd.ntmps25
      go_wp2
      go_ret
      exact ⟨ret_bool (by (rw [HV.out]) <;> first | rfl | (simp only [decide_eq_false_iff_not]; omega) | (simp only [Bool.or_eq_false_iff, decide_eq_false_iff_not]; omega)), rfl⟩
    · have HV := Lib.hid (show plainB c = false from (plain_marks (by omega) (by omega) (by omega)).trans hm)
      have g1 : (57 : Int) < c.toNat := by omega
      have g2 : (c.toNat : Int) < 65 := by omega
      clear h
      go_enter Tryd.func25, Tryd.ntmps25
      go_wp2
      go_ret
      exact ⟨ret_bool (by (rw [HV.out]) <;> first | rfl | (simp only [decide_eq_false_iff_not]; omega) | (simp only [Bool.or_eq_false_iff, decide_eq_false_iff_not]; omega)), rfl⟩
    · have HV := Lib.hid (plain_letters (c := c) (by omega))
      have g1 : (65 : Int) ≤ c.toNat := by omega
      have g2 : (c.toNat : Int) ≤ 90 := by omega
      clear h
      go_enter Tryd.func25, Tryd.ntmps25
      go_wp2
      go_ret
      exact ⟨ret_bool (by (rw [HV.out]) <;> first | rfl | (simp only [decide_eq_false_iff_not]; omega) | (simp only [Bool.or_eq_false_iff, decide_eq_false_iff_not]; omega)), rfl⟩
    · have HV := Lib.hid (show plainB c = false from (plain_marks (by omega) (by omega) (by omega)).trans hm)
      have g1 : (90 : Int) < c.toNat := by omega
      have g2 : (c.toNat : Int) < 97 := by omega
      clear h
      go_enter Tryd.func25, Tryd.ntmps25
      go_wp2
      go_ret
      exact ⟨ret_bool (by (rw [HV.out]) <;> first | rfl | (simp only [decide_eq_false_iff_not]; omega) | (simp only [Bool.or_eq_false_iff, decide_eq_false_iff_not]; omega)), rfl⟩
    · have HV := Lib.hid (plain_letters (c := c) (by omega))
      have g1 : (97 : Int) ≤ c.toNat := by omega
      have g2 : (c.toNat : Int) ≤ 122 := by omega
      clear h
      go_enter Tryd.func25, Tryd.ntmps25
      go_wp2
      go_ret
      exact ⟨ret_bool (by (rw [HV.out]) <;> first | rfl | (simp only [decide_eq_false_iff_not]; omega) | (simp only [Bool.or_eq_false_iff, decide_eq_false_iff_not]; omega)), rfl⟩
    · have HV := Lib.hid (show plainB c = false from (plain_marks (by omega) (by omega) (by omega)).trans hm)
      have g1 : (122 : Int) < c.toNat := by omega
      clear h
      go_enter Tryd.func25, Tryd.ntmps25
      go_wp2
      go_ret
      exact ⟨ret_bool (by (rw [HV.out]) <;> first | rfl | (simp only [decide_eq_false_iff_not]; omega) | (simp only [Bool.or_eq_false_iff, decide_eq_false_iff_not]; omega)), rfl⟩
end Go.Proofs.YtokgpmelhmaokaaDoor
