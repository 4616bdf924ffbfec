/-
  Single bytes: small letters, letters, digits, signs, blanks, in the program and in the reference.
-/
import Derived.Test.YtkfnebpooohflaaDoorRows
import Derived.Test.YtkfnebpooohflaaDoorHeadMath
import Derived.Test.YtkfnebpooohflaaDoorShelf
import Derived.WalkKit
import Derived.WalkSpells
import Derived.WalkLawsBesides
import Derived.Lib.Hide
import Derived.Lib.IndexBytes
import Derived.Shelf.Strings.SlTrimAscii
namespace Go.Proofs.YtkfnebpooohflaaDoor.HeadS
open Go.RowKit HeadMath

theorem u8_beq (a b : UInt8) : ((a.toNat : Int) == (b.toNat : Int)) = (a == b) := by
  rw [Bool.eq_iff_iff, beq_iff_eq, beq_iff_eq]
  constructor
  · intro h; exact UInt8.toNat_inj.1 (by omega)
  · rintro rfl; rfl
theorem u8_beq_lit (a : UInt8) (n : Nat) (h : n < 256) : ((a.toNat : Int) == (n : Int)) = (a == UInt8.ofNat n) := by
  have := u8_beq a (UInt8.ofNat n)
  rw [show (UInt8.ofNat n).toNat = n from by simp; omega] at this
  exact this
theorem u8_lt (c : UInt8) : c.toNat < 256 := c.toNat_lt

theorem ret_int {k : IntKind} {a b : Int} (h : a = b) : Ending.returned (.int k a) = .returned (.int k b) := by rw [h]
theorem ret_bool {a b : Bool} (h : a = b) : Ending.returned (.bool a) = .returned (.bool b) := by rw [h]

set_option maxHeartbeats 400000 in
theorem small_any (c : UInt8) (w : World) : Calls Tryd.prog 41 #[.int .u8 c.toNat] w fun e w' => e = .returned (.int .u8 (small c).toNat) ∧ w = w' := by
  have hc := u8_lt c
  rcases (show c.toNat < 65 ∨ (65 ≤ c.toNat ∧ c.toNat ≤ 90) ∨ 90 < c.toNat from by omega) with h | h | h
  · have HS := Lib.hid (small_other (c := c) (by omega))
    have g1 : (c.toNat : Int) < 65 := by omega
    go_enter Tryd.func41, Tryd.ntmps41
    go_wp2
    go_ret
    exact ⟨ret_int (by rw [HS.out]), rfl⟩
  · have HS := Lib.hid (small_up h)
    have g1 : (65 : Int) ≤ c.toNat := by omega
    have g2 : (c.toNat : Int) ≤ 90 := by omega
    go_enter Tryd.func41, Tryd.ntmps41
    go_wp2
    go_ret
    exact ⟨ret_int (by rw [HS.out]; first | omega | (simp only [IntKind.wrap_u8']; omega)), rfl⟩
  · have HS := Lib.hid (small_other (c := c) (by omega))
    have g1 : (90 : Int) < c.toNat := by omega
    go_enter Tryd.func41, Tryd.ntmps41
    go_wp2
    go_ret
    exact ⟨ret_int (by rw [HS.out]), rfl⟩

set_option maxHeartbeats 400000 in
theorem digit_any (c : UInt8) (w : World) : Calls Tryd.prog 42 #[.int .u8 c.toNat] w fun e w' => e = .returned (.bool (digitB c)) ∧ w = w' := by
  rcases (show c.toNat < 48 ∨ (48 ≤ c.toNat ∧ c.toNat ≤ 57) ∨ 57 < c.toNat from by omega) with h | h | h
  · have HD := Lib.hid (show digitB c = false from by unfold digitB; rw [decide_eq_false_iff_not]; omega)
    have g1 : (c.toNat : Int) < 48 := by omega
    go_enter Tryd.func42, Tryd.ntmps42
    go_wp2
    go_ret
    exact ⟨ret_bool (by (rw [HD.out]) <;> exact decide_eq_false (by omega)), rfl⟩
  · have HD := Lib.hid (show digitB c = true from by unfold digitB; rw [decide_eq_true_iff]; omega)
    have g1 : (48 : Int) ≤ c.toNat := by omega
    have g2 : (c.toNat : Int) ≤ 57 := by omega
    go_enter Tryd.func42, Tryd.ntmps42
    go_wp2
    go_ret
    exact ⟨ret_bool (by (rw [HD.out]) <;> exact decide_eq_false (by omega)), rfl⟩
  · have HD := Lib.hid (show digitB c = false from by unfold digitB; rw [decide_eq_false_iff_not]; omega)
    have g1 : (57 : Int) < c.toNat := by omega
    go_enter Tryd.func42, Tryd.ntmps42
    go_wp2
    go_ret
    exact ⟨ret_bool (by (rw [HD.out]) <;> exact decide_eq_false (by omega)), rfl⟩

set_option maxHeartbeats 400000 in
theorem letter_any (c : UInt8) (w : World) : Calls Tryd.prog 60 #[.int .u8 c.toNat] w fun e w' => e = .returned (.bool (letterB c)) ∧ w = w' := by
  generalize hs : small c = d
  have HS := Lib.hid hs
  rcases (show d.toNat < 97 ∨ (97 ≤ d.toNat ∧ d.toNat ≤ 122) ∨ 122 < d.toNat from by omega) with h | h | h
  · have HD := Lib.hid (show letterB c = false from by unfold letterB; rw [hs, decide_eq_false_iff_not]; omega)
    have g1 : (d.toNat : Int) < 97 := by omega
    clear hs
    go_enter Tryd.func60, Tryd.ntmps60
    go_wp2_with fail
    refine (small_any c _).mono ?_
    rintro e w1 ⟨rfl, rfl⟩
    rw [HS.out]
    go_wp2
    go_ret
    exact ⟨ret_bool (by (rw [HD.out]) <;> exact decide_eq_false (by omega)), rfl⟩
  · have HD := Lib.hid (show letterB c = true from by unfold letterB; rw [hs, decide_eq_true_iff]; omega)
    have g1 : (97 : Int) ≤ d.toNat := by omega
    have g2 : (d.toNat : Int) ≤ 122 := by omega
    clear hs
    go_enter Tryd.func60, Tryd.ntmps60
    go_wp2_with fail
    refine (small_any c _).mono ?_
    rintro e w1 ⟨rfl, rfl⟩
    rw [HS.out]
    go_wp2_with fail
    refine (small_any c _).mono ?_
    rintro e w1 ⟨rfl, rfl⟩
    rw [HS.out]
    go_wp2
    go_ret
    exact ⟨ret_bool (by (rw [HD.out]) <;> exact decide_eq_false (by omega)), rfl⟩
  · have HD := Lib.hid (show letterB c = false from by unfold letterB; rw [hs, decide_eq_false_iff_not]; omega)
    have g1 : (122 : Int) < d.toNat := by omega
    clear hs
    go_enter Tryd.func60, Tryd.ntmps60
    go_wp2_with fail
    refine (small_any c _).mono ?_
    rintro e w1 ⟨rfl, rfl⟩
    rw [HS.out]
    go_wp2_with fail
    refine (small_any c _).mono ?_
    rintro e w1 ⟨rfl, rfl⟩
    rw [HS.out]
    go_wp2
    go_ret
    exact ⟨ret_bool (by (rw [HD.out]) <;> exact decide_eq_false (by omega)), rfl⟩

set_option maxHeartbeats 400000 in
theorem blank_any (c : UInt8) (w : World) : Calls Tryd.prog 27 #[.int .u8 c.toNat] w fun e w' => e = .returned (.bool (blankB c)) ∧ w = w' := by
  have q1 := u8_beq_lit c 32 (by omega)
  have q2 := u8_beq_lit c 9 (by omega)
  have H1 := Lib.hid q1
  have H2 := Lib.hid q2
  by_cases h : c = 32
  · have g : ((c.toNat : Int) == 32) = true := q1.trans (by simpa using h)
    clear q1 q2
    go_enter Tryd.func27, Tryd.ntmps27
    go_wp2
    go_ret
    exact ⟨ret_bool (by rw [h]; rfl), rfl⟩
  · have g : ((c.toNat : Int) == 32) = false := q1.trans (by simpa using h)
    have hb : (c == 32) = false := by simpa using h
    clear q1 q2
    go_enter Tryd.func27, Tryd.ntmps27
    go_wp2
    go_ret
    refine ⟨ret_bool ?_, rfl⟩
    unfold blankB
    rw [hb, Bool.false_or]
    exact H2.out

theorem sign_letters {c : UInt8} (h : (97 ≤ c.toNat ∧ c.toNat ≤ 122) ∨ (65 ≤ c.toNat ∧ c.toNat ≤ 90) ∨ (48 ≤ c.toNat ∧ c.toNat ≤ 57)) : signB c = true := by
  unfold signB
  rw [letterB_eq]
  unfold digitB
  simp only [Bool.or_eq_true, decide_eq_true_eq]
  omega
theorem sign_marks {c : UInt8} (h : ¬ (97 ≤ c.toNat ∧ c.toNat ≤ 122)) (h2 : ¬ (65 ≤ c.toNat ∧ c.toNat ≤ 90)) (h3 : ¬ (48 ≤ c.toNat ∧ c.toNat ≤ 57)) : signB c = marks.contains c := by
  unfold signB
  rw [letterB_eq]
  unfold digitB
  rw [decide_eq_false h, decide_eq_false h2, decide_eq_false h3]; rfl

set_option maxHeartbeats 4000000 in
theorem sign_any (c : UInt8) (w : World) : Calls Tryd.prog 26 #[.int .u8 c.toNat] w fun e w' => e = .returned (.bool (signB c)) ∧ w = w' := by
  rcases (show c.toNat < 48 ∨ (48 ≤ c.toNat ∧ c.toNat ≤ 57) ∨ (57 < c.toNat ∧ c.toNat < 65) ∨ (65 ≤ c.toNat ∧ c.toNat ≤ 90) ∨ (90 < c.toNat ∧ c.toNat < 97) ∨ (97 ≤ c.toNat ∧ c.toNat ≤ 122) ∨ 122 < c.toNat from by omega) with h | h | h | h | h | h | h
  · have HM := Lib.hid (sign_marks (c := c) (by omega) (by omega) (by omega))
    have g3 : (c.toNat : Int) < 48 := by omega
    clear h
    go_enter Tryd.func26, Tryd.ntmps26
    go_wp2
    go_loop [3] (fun i => ∃ k : Nat, k ≤ 15 ∧ i = .int .i64 k ∧ ∀ j, j < k → marks.getD j 0 ≠ c) (fun i => 15 - (intOf i).toNat)
    case atStart => exact ⟨0, by omega, rfl, fun j hj => by omega⟩
    case round =>
      obtain ⟨k, hk, rfl, hall⟩ := hrel
      have HAL := Lib.hid hall
      clear hall
      by_cases hlt : k < 15
      · have hsz : k < ({ data := #[33, 35, 36, 37, 38, 39, 42, 43, 45, 46, 94, 95, 96, 124, 126] } : ByteArray).size := hlt
        have HMK := Lib.hid (show marks.getD k 0 = ({ data := #[33, 35, 36, 37, 38, 39, 42, 43, 45, 46, 94, 95, 96, 124, 126] } : ByteArray)[k] from by
          have h' : k < marks.length := hlt
          rw [List.getD_eq_getElem?_getD, List.getElem?_eq_getElem h']; rfl)
        by_cases hc : ({ data := #[33, 35, 36, 37, 38, 39, 42, 43, 45, 46, 94, 95, 96, 124, 126] } : ByteArray)[k] = c
        · have q : (((({ data := #[33, 35, 36, 37, 38, 39, 42, 43, 45, 46, 94, 95, 96, 124, 126] } : ByteArray)[k]).toNat : Int) == (c.toNat : Int)) = true := (u8_beq _ _).trans (by simpa using hc)
          have HC := Lib.hid hc
          clear hc
          go_wp2
          go_ret
          refine ⟨ret_bool ?_, rfl⟩
          rw [HM.out]
          symm
          rw [List.contains_iff_mem, ← HC.out, ← HMK.out, List.getD_eq_getElem?_getD, List.getElem?_eq_getElem (show k < marks.length from hlt)]
          exact List.getElem_mem _
        · have q : (((({ data := #[33, 35, 36, 37, 38, 39, 42, 43, 45, 46, 94, 95, 96, 124, 126] } : ByteArray)[k]).toNat : Int) == (c.toNat : Int)) = false := (u8_beq _ _).trans (by simpa using hc)
          have HC := Lib.hid hc
          clear hc
          go_wp2
          go_round
          case rel =>
            refine ⟨k + 1, by omega, by go_num, fun j hj => ?_⟩
            by_cases hjk : j = k
            · subst hjk; rw [HMK.out]; exact HC.out
            · exact HAL.out j (by omega)
          case measure => simp [intOf]; omega
      · have hk15 : k = 15 := by omega
        have HF := Lib.hid (show marks.contains c = false from by
          rw [← Bool.not_eq_true, List.contains_iff_mem]
          intro hm
          obtain ⟨j, hj, he⟩ := List.mem_iff_getElem.1 hm
          have hj' : j < 15 := hj
          refine HAL.out j (by omega) ?_
          rw [List.getD_eq_getElem?_getD, List.getElem?_eq_getElem hj]; exact he)
        subst hk15
        go_wp2
        go_ret
        exact ⟨ret_bool (by rw [HM.out, HF.out]), rfl⟩
  · have HM := Lib.hid (sign_letters (c := c) (by omega))
    have g1 : (48 : Int) ≤ c.toNat := by omega
    have g2 : (c.toNat : Int) ≤ 57 := by omega
    clear h
    go_enter Tryd.func26, Tryd.ntmps26
    go_wp2
    go_ret
    exact ⟨ret_bool (by rw [HM.out]), rfl⟩
  · have HM := Lib.hid (sign_marks (c := c) (by omega) (by omega) (by omega))
    have g4 : (57 : Int) < c.toNat := by omega
    have g3 : (c.toNat : Int) < 65 := by omega
    clear h
    go_enter Tryd.func26, Tryd.ntmps26
    go_wp2
    go_loop [3] (fun i => ∃ k : Nat, k ≤ 15 ∧ i = .int .i64 k ∧ ∀ j, j < k → marks.getD j 0 ≠ c) (fun i => 15 - (intOf i).toNat)
    case atStart => exact ⟨0, by omega, rfl, fun j hj => by omega⟩
    case round =>
      obtain ⟨k, hk, rfl, hall⟩ := hrel
      have HAL := Lib.hid hall
      clear hall
      by_cases hlt : k < 15
      · have hsz : k < ({ data := #[33, 35, 36, 37, 38, 39, 42, 43, 45, 46, 94, 95, 96, 124, 126] } : ByteArray).size := hlt
        have HMK := Lib.hid (show marks.getD k 0 = ({ data := #[33, 35, 36, 37, 38, 39, 42, 43, 45, 46, 94, 95, 96, 124, 126] } : ByteArray)[k] from by
          have h' : k < marks.length := hlt
          rw [List.getD_eq_getElem?_getD, List.getElem?_eq_getElem h']; rfl)
        by_cases hc : ({ data := #[33, 35, 36, 37, 38, 39, 42, 43, 45, 46, 94, 95, 96, 124, 126] } : ByteArray)[k] = c
        · have q : (((({ data := #[33, 35, 36, 37, 38, 39, 42, 43, 45, 46, 94, 95, 96, 124, 126] } : ByteArray)[k]).toNat : Int) == (c.toNat : Int)) = true := (u8_beq _ _).trans (by simpa using hc)
          have HC := Lib.hid hc
          clear hc
          go_wp2
          go_ret
          refine ⟨ret_bool ?_, rfl⟩
          rw [HM.out]
          symm
          rw [List.contains_iff_mem, ← HC.out, ← HMK.out, List.getD_eq_getElem?_getD, List.getElem?_eq_getElem (show k < marks.length from hlt)]
          exact List.getElem_mem _
        · have q : (((({ data := #[33, 35, 36, 37, 38, 39, 42, 43, 45, 46, 94, 95, 96, 124, 126] } : ByteArray)[k]).toNat : Int) == (c.toNat : Int)) = false := (u8_beq _ _).trans (by simpa using hc)
          have HC := Lib.hid hc
          clear hc
          go_wp2
          go_round
          case rel =>
            refine ⟨k + 1, by omega, by go_num, fun j hj => ?_⟩
            by_cases hjk : j = k
            · subst hjk; rw [HMK.out]; exact HC.out
            · exact HAL.out j (by omega)
          case measure => simp [intOf]; omega
      · have hk15 : k = 15 := by omega
        have HF := Lib.hid (show marks.contains c = false from by
          rw [← Bool.not_eq_true, List.contains_iff_mem]
          intro hm
          obtain ⟨j, hj, he⟩ := List.mem_iff_getElem.1 hm
          have hj' : j < 15 := hj
          refine HAL.out j (by omega) ?_
          rw [List.getD_eq_getElem?_getD, List.getElem?_eq_getElem hj]; exact he)
        subst hk15
        go_wp2
        go_ret
        exact ⟨ret_bool (by rw [HM.out, HF.out]), rfl⟩
  · have HM := Lib.hid (sign_letters (c := c) (by omega))
    have g1 : (65 : Int) ≤ c.toNat := by omega
    have g2 : (c.toNat : Int) ≤ 90 := by omega
    clear h
    go_enter Tryd.func26, Tryd.ntmps26
    go_wp2
    go_ret
    exact ⟨ret_bool (by rw [HM.out]), rfl⟩
  · have HM := Lib.hid (sign_marks (c := c) (by omega) (by omega) (by omega))
    have g4 : (90 : Int) < c.toNat := by omega
    have g3 : (c.toNat : Int) < 97 := by omega
    clear h
    go_enter Tryd.func26, Tryd.ntmps26
    go_wp2
    go_loop [3] (fun i => ∃ k : Nat, k ≤ 15 ∧ i = .int .i64 k ∧ ∀ j, j < k → marks.getD j 0 ≠ c) (fun i => 15 - (intOf i).toNat)
    case atStart => exact ⟨0, by omega, rfl, fun j hj => by omega⟩
    case round =>
      obtain ⟨k, hk, rfl, hall⟩ := hrel
      have HAL := Lib.hid hall
      clear hall
      by_cases hlt : k < 15
      · have hsz : k < ({ data := #[33, 35, 36, 37, 38, 39, 42, 43, 45, 46, 94, 95, 96, 124, 126] } : ByteArray).size := hlt
        have HMK := Lib.hid (show marks.getD k 0 = ({ data := #[33, 35, 36, 37, 38, 39, 42, 43, 45, 46, 94, 95, 96, 124, 126] } : ByteArray)[k] from by
          have h' : k < marks.length := hlt
          rw [List.getD_eq_getElem?_getD, List.getElem?_eq_getElem h']; rfl)
        by_cases hc : ({ data := #[33, 35, 36, 37, 38, 39, 42, 43, 45, 46, 94, 95, 96, 124, 126] } : ByteArray)[k] = c
        · have q : (((({ data := #[33, 35, 36, 37, 38, 39, 42, 43, 45, 46, 94, 95, 96, 124, 126] } : ByteArray)[k]).toNat : Int) == (c.toNat : Int)) = true := (u8_beq _ _).trans (by simpa using hc)
          have HC := Lib.hid hc
          clear hc
          go_wp2
          go_ret
          refine ⟨ret_bool ?_, rfl⟩
          rw [HM.out]
          symm
          rw [List.contains_iff_mem, ← HC.out, ← HMK.out, List.getD_eq_getElem?_getD, List.getElem?_eq_getElem (show k < marks.length from hlt)]
          exact List.getElem_mem _
        · have q : (((({ data := #[33, 35, 36, 37, 38, 39, 42, 43, 45, 46, 94, 95, 96, 124, 126] } : ByteArray)[k]).toNat : Int) == (c.toNat : Int)) = false := (u8_beq _ _).trans (by simpa using hc)
          have HC := Lib.hid hc
          clear hc
          go_wp2
          go_round
          case rel =>
            refine ⟨k + 1, by omega, by go_num, fun j hj => ?_⟩
            by_cases hjk : j = k
            · subst hjk; rw [HMK.out]; exact HC.out
            · exact HAL.out j (by omega)
          case measure => simp [intOf]; omega
      · have hk15 : k = 15 := by omega
        have HF := Lib.hid (show marks.contains c = false from by
          rw [← Bool.not_eq_true, List.contains_iff_mem]
          intro hm
          obtain ⟨j, hj, he⟩ := List.mem_iff_getElem.1 hm
          have hj' : j < 15 := hj
          refine HAL.out j (by omega) ?_
          rw [List.getD_eq_getElem?_getD, List.getElem?_eq_getElem hj]; exact he)
        subst hk15
        go_wp2
        go_ret
        exact ⟨ret_bool (by rw [HM.out, HF.out]), rfl⟩
  · have HM := Lib.hid (sign_letters (c := c) (by omega))
    have g1 : (97 : Int) ≤ c.toNat := by omega
    have g2 : (c.toNat : Int) ≤ 122 := by omega
    clear h
    go_enter Tryd.func26, Tryd.ntmps26
    go_wp2
    go_ret
    exact ⟨ret_bool (by rw [HM.out]), rfl⟩
  · have HM := Lib.hid (sign_marks (c := c) (by omega) (by omega) (by omega))
    have g4 : (122 : Int) < c.toNat := by omega
    clear h
    go_enter Tryd.func26, Tryd.ntmps26
    go_wp2
    go_loop [3] (fun i => ∃ k : Nat, k ≤ 15 ∧ i = .int .i64 k ∧ ∀ j, j < k → marks.getD j 0 ≠ c) (fun i => 15 - (intOf i).toNat)
    case atStart => exact ⟨0, by omega, rfl, fun j hj => by omega⟩
    case round =>
      obtain ⟨k, hk, rfl, hall⟩ := hrel
      have HAL := Lib.hid hall
      clear hall
      by_cases hlt : k < 15
      · have hsz : k < ({ data := #[33, 35, 36, 37, 38, 39, 42, 43, 45, 46, 94, 95, 96, 124, 126] } : ByteArray).size := hlt
        have HMK := Lib.hid (show marks.getD k 0 = ({ data := #[33, 35, 36, 37, 38, 39, 42, 43, 45, 46, 94, 95, 96, 124, 126] } : ByteArray)[k] from by
          have h' : k < marks.length := hlt
          rw [List.getD_eq_getElem?_getD, List.getElem?_eq_getElem h']; rfl)
        by_cases hc : ({ data := #[33, 35, 36, 37, 38, 39, 42, 43, 45, 46, 94, 95, 96, 124, 126] } : ByteArray)[k] = c
        · have q : (((({ data := #[33, 35, 36, 37, 38, 39, 42, 43, 45, 46, 94, 95, 96, 124, 126] } : ByteArray)[k]).toNat : Int) == (c.toNat : Int)) = true := (u8_beq _ _).trans (by simpa using hc)
          have HC := Lib.hid hc
          clear hc
          go_wp2
          go_ret
          refine ⟨ret_bool ?_, rfl⟩
          rw [HM.out]
          symm
          rw [List.contains_iff_mem, ← HC.out, ← HMK.out, List.getD_eq_getElem?_getD, List.getElem?_eq_getElem (show k < marks.length from hlt)]
          exact List.getElem_mem _
        · have q : (((({ data := #[33, 35, 36, 37, 38, 39, 42, 43, 45, 46, 94, 95, 96, 124, 126] } : ByteArray)[k]).toNat : Int) == (c.toNat : Int)) = false := (u8_beq _ _).trans (by simpa using hc)
          have HC := Lib.hid hc
          clear hc
          go_wp2
          go_round
          case rel =>
            refine ⟨k + 1, by omega, by go_num, fun j hj => ?_⟩
            by_cases hjk : j = k
            · subst hjk; rw [HMK.out]; exact HC.out
            · exact HAL.out j (by omega)
          case measure => simp [intOf]; omega
      · have hk15 : k = 15 := by omega
        have HF := Lib.hid (show marks.contains c = false from by
          rw [← Bool.not_eq_true, List.contains_iff_mem]
          intro hm
          obtain ⟨j, hj, he⟩ := List.mem_iff_getElem.1 hm
          have hj' : j < 15 := hj
          refine HAL.out j (by omega) ?_
          rw [List.getD_eq_getElem?_getD, List.getElem?_eq_getElem hj]; exact he)
        subst hk15
        go_wp2
        go_ret
        exact ⟨ret_bool (by rw [HM.out, HF.out]), rfl⟩
end Go.Proofs.YtkfnebpooohflaaDoor.HeadS