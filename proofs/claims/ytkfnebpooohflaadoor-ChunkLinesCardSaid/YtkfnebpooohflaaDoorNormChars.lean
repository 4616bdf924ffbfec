/-
  Single bytes: small letters, letters, digits, signs, blanks, in the program and in the reference.
-/
import Derived.Test.YtkfnebpooohflaaDoorRows
import Derived.Test.YtkfnebpooohflaaDoorHeadMath
import Derived.Test.YtkfnebpooohflaaDoorShelf
import Derived.WalkKit
import Derived.WalkSpells
import Derived.WalkLawsBesides
import Derived.Lib.Hide
import Derived.Lib.IndexBytes
import Derived.Shelf.Strings.SlTrimAscii
namespace Go.Proofs.YtkfnebpooohflaaDoor.NormS
open Go.RowKit HeadMath

theorem u8_lt (c : UInt8) : c.toNat < 256 := c.toNat_lt

theorem ret_int {k : IntKind} {a b : Int} (h : a = b) : Ending.returned (.int k a) = .returned (.int k b) := by rw [h]
theorem ret_bool {a b : Bool} (h : a = b) : Ending.returned (.bool a) = .returned (.bool b) := by rw [h]

set_option maxHeartbeats 400000 in
theorem small_any (c : UInt8) (w : World) : Calls Tryd.prog 41 #[.int .u8 c.toNat] w fun e w' => e = .returned (.int .u8 (small c).toNat) ∧ w = w' := by
  have hc := u8_lt c
  rcases (show c.toNat < 65 ∨ (65 ≤ c.toNat ∧ c.toNat ≤ 90) ∨ 90 < c.toNat from by omega) with h | h | h
  · have HS := Lib.hid (small_other (c := c) (by omega))
    have g1 : (c.toNat : Int) < 65 := by omega
    go_enter Tryd.func41, Tryd.ntmps41
    go_wp2
    go_ret
    exact ⟨ret_int (by rw [HS.out]), rfl⟩
  · have HS := Lib.hid (small_up h)
    have g1 : (65 : Int) ≤ c.toNat := by omega
    have g2 : (c.toNat : Int) ≤ 90 := by omega
    go_enter Tryd.func41, Tryd.ntmps41
    go_wp2
    go_ret
    exact ⟨ret_int (by rw [HS.out]; first | omega | (simp only [IntKind.wrap_u8']; omega)), rfl⟩
  · have HS := Lib.hid (small_other (c := c) (by omega))
    have g1 : (90 : Int) < c.toNat := by omega
    go_enter Tryd.func41, Tryd.ntmps41
    go_wp2
    go_ret
    exact ⟨ret_int (by rw [HS.out]), rfl⟩

set_option maxHeartbeats 400000 in
theorem digit_any (c : UInt8) (w : World) : Calls Tryd.prog 42 #[.int .u8 c.toNat] w fun e w' => e = .returned (.bool (digitB c)) ∧ w = w' := by
  rcases (show c.toNat < 48 ∨ (48 ≤ c.toNat ∧ c.toNat ≤ 57) ∨ 57 < c.toNat from by omega) with h | h | h
  · have HD := Lib.hid (show digitB c = false from by unfold digitB; rw [decide_eq_false_iff_not]; omega)
    have g1 : (c.toNat : Int) < 48 := by omega
    go_enter Tryd.func42, Tryd.ntmps42
    go_wp2
    go_ret
    exact ⟨ret_bool (by (rw [HD.out]) <;> exact decide_eq_false (by omega)), rfl⟩
  · have HD := Lib.hid (show digitB c = true from by unfold digitB; rw [decide_eq_true_iff]; omega)
    have g1 : (48 : Int) ≤ c.toNat := by omega
    have g2 : (c.toNat : Int) ≤ 57 := by omega
    go_enter Tryd.func42, Tryd.ntmps42
    go_wp2
    go_ret
    exact ⟨ret_bool (by (rw [HD.out]) <;> exact decide_eq_false (by omega)), rfl⟩
  · have HD := Lib.hid (show digitB c = false from by unfold digitB; rw [decide_eq_false_iff_not]; omega)
    have g1 : (57 : Int) < c.toNat := by omega
    go_enter Tryd.func42, Tryd.ntmps42
    go_wp2
    go_ret
    exact ⟨ret_bool (by (rw [HD.out]) <;> exact decide_eq_false (by omega)), rfl⟩

end Go.Proofs.YtkfnebpooohflaaDoor.NormS