/-
  Hexadecimal digits, in the program and in the reference.
-/
import Derived.Test.YtkfnebpooohflaaDoorNormChars
import Derived.Test.YtkfnebpooohflaaDoorNormMath
namespace Go.Proofs.YtkfnebpooohflaaDoor.NormS
open Go.RowKit HeadMath NormMath

theorem ret_tuple2 {a b c d : Value} (h : a = c) (h' : b = d) : Ending.returned (.tuple #[a, b]) = .returned (.tuple #[c, d]) := by rw [h, h']
theorem int_eq {k : IntKind} {a b : Int} (h : a = b) : Value.int k a = .int k b := by rw [h]
theorem bool_eq {a b : Bool} (h : a = b) : Value.bool a = .bool b := by rw [h]

/-- What a digit is worth; nought where it is none. -/
def hexN (c : UInt8) : Nat := (hexV c).getD 0
def hexB (c : UInt8) : Bool := (hexV c).isSome
theorem hex_digit {c : UInt8} (h : 48 ≤ c.toNat ∧ c.toNat ≤ 57) : hexV c = some (c.toNat - 48) := by unfold hexV; rw [if_pos h]
theorem hex_small {c : UInt8} (h : 97 ≤ c.toNat ∧ c.toNat ≤ 102) : hexV c = some (c.toNat - 87) := by unfold hexV; rw [if_neg (by omega), if_pos h]
theorem hex_great {c : UInt8} (h : 65 ≤ c.toNat ∧ c.toNat ≤ 70) : hexV c = some (c.toNat - 55) := by unfold hexV; rw [if_neg (by omega), if_neg (by omega), if_pos h]
theorem hex_none {c : UInt8} (h1 : ¬ (48 ≤ c.toNat ∧ c.toNat ≤ 57)) (h2 : ¬ (97 ≤ c.toNat ∧ c.toNat ≤ 102)) (h3 : ¬ (65 ≤ c.toNat ∧ c.toNat ≤ 70)) : hexV c = none := by unfold hexV; rw [if_neg h1, if_neg h2, if_neg h3]

def HexPost (c : UInt8) (w : World) (e : Ending) (w' : World) : Prop := e = .returned (.tuple #[.int .i64 (hexN c), .bool (hexB c)]) ∧ w = w'

set_option maxHeartbeats 1000000 in
theorem hex_any (c : UInt8) (w : World) : Calls Tryd.prog 32 #[.int .u8 c.toNat] w (HexPost c w) := by
  obtain ⟨d, hd⟩ : ∃ d, small c = d := ⟨_, rfl⟩
  have hc := u8_lt c
  have HS := Lib.hid hd
  by_cases h1 : 48 ≤ c.toNat ∧ c.toNat ≤ 57
  · have e : d = c := by rw [← hd, small_other (by omega)]
    subst e
    have HV := Lib.hid (hex_digit h1)
    have HD := Lib.hid (show digitB d = true by unfold digitB; exact decide_eq_true h1)
    clear hd
    go_enter Tryd.func32, Tryd.ntmps32
    go_wp2_with fail
    refine (small_any _ _).mono ?_
    rintro e w1 ⟨rfl, rfl⟩
    rw [HS.out]
    go_wp2_with fail
    refine (digit_any _ _).mono ?_
    rintro e w1 ⟨rfl, rfl⟩
    rw [HD.out]
    go_wp2
    go_ret2
    exact ⟨ret_tuple2 (int_eq (by unfold hexN; rw [HV.out]; simp only [Option.getD_some]; first | omega | (simp only [IntKind.wrap_u8']; omega))) (bool_eq (by unfold hexB; rw [HV.out]; rfl)), rfl⟩
  · by_cases h2 : 97 ≤ d.toNat ∧ d.toNat ≤ 102
    · have HV : Hid (hexV c = some (d.toNat - 87)) := by
        by_cases hu : 65 ≤ c.toNat ∧ c.toNat ≤ 90
        · have := small_up hu; rw [hd] at this
          rw [show d.toNat - 87 = c.toNat - 55 by omega]; exact Lib.hid (hex_great (by omega))
        · have : d = c := by rw [← hd, small_other hu]
          subst this; exact Lib.hid (hex_small h2)
      have HD := Lib.hid (show digitB d = false by unfold digitB; exact decide_eq_false (by omega))
      have g1 : (97 : Int) ≤ d.toNat := by omega
      have g2 : (d.toNat : Int) ≤ 102 := by omega
      clear hd
      go_enter Tryd.func32, Tryd.ntmps32
      go_wp2_with fail
      refine (small_any _ _).mono ?_
      rintro e w1 ⟨rfl, rfl⟩
      rw [HS.out]
      go_wp2_with fail
      refine (digit_any _ _).mono ?_
      rintro e w1 ⟨rfl, rfl⟩
      rw [HD.out]
      go_wp2
      go_ret2
      exact ⟨ret_tuple2 (int_eq (by unfold hexN; rw [HV.out]; simp only [Option.getD_some]; first | omega | (simp only [IntKind.wrap_u8']; omega))) (bool_eq (by unfold hexB; rw [HV.out]; rfl)), rfl⟩
    · have HV : Hid (hexV c = none) := by
        by_cases hu : 65 ≤ c.toNat ∧ c.toNat ≤ 90
        · have := small_up hu; rw [hd] at this
          exact Lib.hid (hex_none h1 (by omega) (by omega))
        · have : d = c := by rw [← hd, small_other hu]
          subst this; exact Lib.hid (hex_none h1 h2 (by omega))
      have HD : Hid (digitB d = false) := by
        refine Lib.hid ?_
        unfold digitB; refine decide_eq_false ?_
        by_cases hu : 65 ≤ c.toNat ∧ c.toNat ≤ 90
        · have := small_up hu; rw [hd] at this; omega
        · have : d = c := by rw [← hd, small_other hu]
          subst this; exact h1
      rcases (show d.toNat < 97 ∨ 102 < d.toNat by omega) with h | h
      · have g1 : (d.toNat : Int) < 97 := by omega
        clear hd h2
        go_enter Tryd.func32, Tryd.ntmps32
        go_wp2_with fail
        refine (small_any _ _).mono ?_
        rintro e w1 ⟨rfl, rfl⟩
        rw [HS.out]
        go_wp2_with fail
        refine (digit_any _ _).mono ?_
        rintro e w1 ⟨rfl, rfl⟩
        rw [HD.out]
        go_wp2
        go_ret2
        exact ⟨ret_tuple2 (int_eq (by unfold hexN; rw [HV.out]; rfl)) (bool_eq (by unfold hexB; rw [HV.out]; rfl)), rfl⟩
      · have g1 : (97 : Int) ≤ d.toNat := by omega
        have g2 : (102 : Int) < d.toNat := by omega
        clear hd h2
        go_enter Tryd.func32, Tryd.ntmps32
        go_wp2_with fail
        refine (small_any _ _).mono ?_
        rintro e w1 ⟨rfl, rfl⟩
        rw [HS.out]
        go_wp2_with fail
        refine (digit_any _ _).mono ?_
        rintro e w1 ⟨rfl, rfl⟩
        rw [HD.out]
        go_wp2
        go_ret2
        exact ⟨ret_tuple2 (int_eq (by unfold hexN; rw [HV.out]; rfl)) (bool_eq (by unfold hexB; rw [HV.out]; rfl)), rfl⟩
end Go.Proofs.YtkfnebpooohflaaDoor.NormS