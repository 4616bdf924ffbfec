/-
  Single bytes: small letters, letters, digits, signs, blanks, in the program and in the reference.
  Single bytes: small letters, letters, digits, signs, blanks, in the program and in the reference.
-/
import Derived.Test.YtkpkpfolgbpjbaaDoorRows
import Derived.Test.YtkpkpfolgbpjbaaDoorShelf
import Derived.WalkKit
import Derived.WalkSpells
import Derived.WalkLawsBesides
import Derived.Lib.Hide
import Derived.Lib.IndexBytes
import Derived.Shelf.Strings.SlTrimAscii
import Derived.Test.YtkpkpfolgbpjbaaDoorMg0
namespace Go.Proofs.YtkpkpfolgbpjbaaDoor.HeadS
open Go.RowKit HeadMath

theorem u8_beq (a b : UInt8) : ((a.toNat : Int) == (b.toNat : Int)) = (a == b) := by
  rw [Bool.eq_iff_iff, beq_iff_eq, beq_iff_eq]
  constructor
  · intro h; exact UInt8.toNat_inj.1 (by omega)
  · rintro rfl; rfl
theorem u8_beq_lit (a : UInt8) (n : Nat) (h : n < 256) : ((a.toNat : Int) == (n : Int)) = (a == UInt8.ofNat n) := by
  have := u8_beq a (UInt8.ofNat n)
  rw [show (UInt8.ofNat n).toNat = n from by simp; omega] at this
  exact this
theorem u8_lt (c : UInt8) : c.toNat < 256 := c.toNat_lt

theorem ret_int {k : IntKind} {a b : Int} (h : a = b) : Ending.returned (.int k a) = .returned (.int k b) := by rw [h]
theorem ret_bool {a b : Bool} (h : a = b) : Ending.returned (.bool a) = .returned (.bool b) := by rw [h]

set_option maxHeartbeats 400000 in
theorem small_any (c : UInt8) (w : World) : Calls Tryd.prog 72 #[.int .u8 c.toNat] w fun e w' => e = .returned (.int .u8 (small c).toNat) ∧ w = w' := by
  have hc := u8_lt c
  rcases (show c.toNat < 65 ∨ (65 ≤ c.toNat ∧ c.toNat ≤ 90) ∨ 90 < c.toNat from by omega) with h | h | h
  · have HS := Lib.hid (small_other (c := c) (by omega))
    have g1 : (c.toNat : Int) < 65 := by omega
    go_enter Tryd.func72, Tryd.ntmps72
    go_wp2
    go_ret
    exact ⟨ret_int (by rw [HS.out]), rfl⟩
  · have HS := Lib.hid (small_up h)
    have g1 : (65 : Int) ≤ c.toNat := by omega
    have g2 : (c.toNat : Int) ≤ 90 := by omega
    go_enter Tryd.func72, Tryd.ntmps72
    go_wp2
    go_ret
    exact ⟨ret_int (by rw [HS.out]; first | omega | (simp only [IntKind.wrap_u8']; omega)), rfl⟩
  · have HS := Lib.hid (small_other (c := c) (by omega))
    have g1 : (90 : Int) < c.toNat := by omega
    go_enter Tryd.func72, Tryd.ntmps72
    go_wp2
    go_ret
    exact ⟨ret_int (by rw [HS.out]), rfl⟩

set_option maxHeartbeats 400000 in
theorem low_any (c : UInt8) (w : World) : Calls Tryd.prog 48 #[.int .u8 c.toNat] w fun e w' => e = .returned (.int .u8 (small c).toNat) ∧ w = w' := by
  have hc := u8_lt c
  rcases (show c.toNat < 65 ∨ (65 ≤ c.toNat ∧ c.toNat ≤ 90) ∨ 90 < c.toNat from by omega) with h | h | h
  · have HS := Lib.hid (small_other (c := c) (by omega))
    have g1 : (c.toNat : Int) < 65 := by omega
    go_enter Tryd.func48, Tryd.ntmps48
    go_wp2
    go_ret
    exact ⟨ret_int (by rw [HS.out]), rfl⟩
  · have HS := Lib.hid (small_up h)
    have g1 : (65 : Int) ≤ c.toNat := by omega
    have g2 : (c.toNat : Int) ≤ 90 := by omega
    go_enter Tryd.func48, Tryd.ntmps48
    go_wp2
    go_ret
    exact ⟨ret_int (by rw [HS.out]; first | omega | (simp only [IntKind.wrap_u8']; omega)), rfl⟩
  · have HS := Lib.hid (small_other (c := c) (by omega))
    have g1 : (90 : Int) < c.toNat := by omega
    go_enter Tryd.func48, Tryd.ntmps48
    go_wp2
    go_ret
    exact ⟨ret_int (by rw [HS.out]), rfl⟩

set_option maxHeartbeats 400000 in
theorem digit_any (c : UInt8) (w : World) : Calls Tryd.prog 58 #[.int .u8 c.toNat] w fun e w' => e = .returned (.bool (digitB c)) ∧ w = w' := by
  rcases (show c.toNat < 48 ∨ (48 ≤ c.toNat ∧ c.toNat ≤ 57) ∨ 57 < c.toNat from by omega) with h | h | h
  · have HD := Lib.hid (show digitB c = false from by unfold digitB; rw [decide_eq_false_iff_not]; omega)
    have g1 : (c.toNat : Int) < 48 := by omega
    go_enter Tryd.func58, Tryd.ntmps58
    go_wp2
    go_ret
    exact ⟨ret_bool (by (rw [HD.out]) <;> exact decide_eq_false (by omega)), rfl⟩
  · have HD := Lib.hid (show digitB c = true from by unfold digitB; rw [decide_eq_true_iff]; omega)
    have g1 : (48 : Int) ≤ c.toNat := by omega
    have g2 : (c.toNat : Int) ≤ 57 := by omega
    go_enter Tryd.func58, Tryd.ntmps58
    go_wp2
    go_ret
    exact ⟨ret_bool (by (rw [HD.out]) <;> exact decide_eq_false (by omega)), rfl⟩
  · have HD := Lib.hid (show digitB c = false from by unfold digitB; rw [decide_eq_false_iff_not]; omega)
    have g1 : (57 : Int) < c.toNat := by omega
    go_enter Tryd.func58, Tryd.ntmps58
    go_wp2
    go_ret
    exact ⟨ret_bool (by (rw [HD.out]) <;> exact decide_eq_false (by omega)), rfl⟩

set_option maxHeartbeats 400000 in
theorem blank_any (c : UInt8) (w : World) : Calls Tryd.prog 57 #[.int .u8 c.toNat] w fun e w' => e = .returned (.bool (blankB c)) ∧ w = w' := by
  have q1 := u8_beq_lit c 32 (by omega)
  have q2 := u8_beq_lit c 9 (by omega)
  have H1 := Lib.hid q1
  have H2 := Lib.hid q2
  by_cases h : c = 32
  · have g : ((c.toNat : Int) == 32) = true := q1.trans (by simpa using h)
    clear q1 q2
    go_enter Tryd.func57, Tryd.ntmps57
    go_wp2
    go_ret
    exact ⟨ret_bool (by rw [h]; rfl), rfl⟩
  · have g : ((c.toNat : Int) == 32) = false := q1.trans (by simpa using h)
    have hb : (c == 32) = false := by simpa using h
    clear q1 q2
    go_enter Tryd.func57, Tryd.ntmps57
    go_wp2
    go_ret
    refine ⟨ret_bool ?_, rfl⟩
    unfold blankB
    rw [hb, Bool.false_or]
    exact H2.out

end Go.Proofs.YtkpkpfolgbpjbaaDoor.HeadS
namespace Go.Proofs.YtkpkpfolgbpjbaaDoor.NormS
open Go.RowKit HeadMath

theorem u8_lt (c : UInt8) : c.toNat < 256 := c.toNat_lt

theorem ret_int {k : IntKind} {a b : Int} (h : a = b) : Ending.returned (.int k a) = .returned (.int k b) := by rw [h]
set_option maxHeartbeats 400000 in
theorem small_any (c : UInt8) (w : World) : Calls Tryd.prog 72 #[.int .u8 c.toNat] w fun e w' => e = .returned (.int .u8 (small c).toNat) ∧ w = w' := by
  have hc := u8_lt c
  rcases (show c.toNat < 65 ∨ (65 ≤ c.toNat ∧ c.toNat ≤ 90) ∨ 90 < c.toNat from by omega) with h | h | h
  · have HS := Lib.hid (small_other (c := c) (by omega))
    have g1 : (c.toNat : Int) < 65 := by omega
    go_enter Tryd.func72, Tryd.ntmps72
    go_wp2
    go_ret
    exact ⟨ret_int (by rw [HS.out]), rfl⟩
  · have HS := Lib.hid (small_up h)
    have g1 : (65 : Int) ≤ c.toNat := by omega
    have g2 : (c.toNat : Int) ≤ 90 := by omega
    go_enter Tryd.func72, Tryd.ntmps72
    go_wp2
    go_ret
    exact ⟨ret_int (by rw [HS.out]; first | omega | (simp only [IntKind.wrap_u8']; omega)), rfl⟩
  · have HS := Lib.hid (small_other (c := c) (by omega))
    have g1 : (90 : Int) < c.toNat := by omega
    go_enter Tryd.func72, Tryd.ntmps72
    go_wp2
    go_ret
    exact ⟨ret_int (by rw [HS.out]), rfl⟩

set_option maxHeartbeats 400000 in
theorem low_any (c : UInt8) (w : World) : Calls Tryd.prog 48 #[.int .u8 c.toNat] w fun e w' => e = .returned (.int .u8 (small c).toNat) ∧ w = w' := by
  have hc := u8_lt c
  rcases (show c.toNat < 65 ∨ (65 ≤ c.toNat ∧ c.toNat ≤ 90) ∨ 90 < c.toNat from by omega) with h | h | h
  · have HS := Lib.hid (small_other (c := c) (by omega))
    have g1 : (c.toNat : Int) < 65 := by omega
    go_enter Tryd.func48, Tryd.ntmps48
    go_wp2
    go_ret
    exact ⟨ret_int (by rw [HS.out]), rfl⟩
  · have HS := Lib.hid (small_up h)
    have g1 : (65 : Int) ≤ c.toNat := by omega
    have g2 : (c.toNat : Int) ≤ 90 := by omega
    go_enter Tryd.func48, Tryd.ntmps48
    go_wp2
    go_ret
    exact ⟨ret_int (by rw [HS.out]; first | omega | (simp only [IntKind.wrap_u8']; omega)), rfl⟩
  · have HS := Lib.hid (small_other (c := c) (by omega))
    have g1 : (90 : Int) < c.toNat := by omega
    go_enter Tryd.func48, Tryd.ntmps48
    go_wp2
    go_ret
    exact ⟨ret_int (by rw [HS.out]), rfl⟩

end Go.Proofs.YtkpkpfolgbpjbaaDoor.NormS
