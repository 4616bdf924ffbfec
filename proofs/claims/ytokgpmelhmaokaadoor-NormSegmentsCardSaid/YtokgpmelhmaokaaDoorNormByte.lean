/-
  The byte that two hexadecimal digits say.
-/
import Derived.Test.YtokgpmelhmaokaaDoorNormPlain
namespace Go.Proofs.YtokgpmelhmaokaaDoor
open Go.RowKit HeadMath NormMath

theorem hexN_lt (c : UInt8) : hexN c < 16 := by
  unfold hexN
  cases h : hexV c with
  | none => decide
  | some a => exact hexV_lt h
/-- The byte of two digits (of worth nought, where they are none). -/
def pairV (h l : UInt8) : UInt8 := UInt8.ofNat (16 * hexN h + hexN l)
theorem pairV_nat (h l : UInt8) : (pairV h l).toNat = 16 * hexN h + hexN l := by
  have a := hexN_lt h
  have b := hexN_lt l
  unfold pairV; simp; omega
theorem or_nat (a b : Nat) (ha : a < 16) (hb : b < 16) : Go.bits .or .i64 ((a : Int) * 16) (b : Int) = ((16 * a + b : Nat) : Int) := by
  have H : ∀ a : Fin 16, ∀ b : Fin 16, Go.bits .or .i64 (((a.1 : Nat) : Int) * 16) ((b.1 : Nat) : Int) = ((16 * a.1 + b.1 : Nat) : Int) := by decide
  exact H ⟨a, ha⟩ ⟨b, hb⟩

theorem wrap_16 {a : Nat} (h : a < 16) : wrap64 ((a : Int) * 16) = (a : Int) * 16 := by unfold wrap64; omega

theorem hexByte_short (s : ByteArray) (w : World) (h : s.size < 2) : Calls Tryd.prog 19 #[.string s] w fun e w' => e = .returned (.tuple #[.int .u8 0, .bool false]) ∧ w = w' := by
  go_enter Tryd.func19, Tryd.ntmps19
  go_wp2
  go_ret2
  exact ⟨rfl, rfl⟩
set_option maxHeartbeats 1000000 in
theorem hexByte_two (s : ByteArray) (w : World) (h : 2 ≤ s.size) :
    Calls Tryd.prog 19 #[.string s] w fun e w' => e = .returned (.tuple #[.int .u8 (pairV (s[0]'(by omega)) (s[1]'(by omega))).toNat, .bool (hexB (s[0]'(by omega)) && hexB (s[1]'(by omega)))]) ∧ w = w' := by
  have l0 : 0 < s.size := by omega
  have l1 : 1 < s.size := by omega
  obtain ⟨x, hx⟩ : ∃ x, s[0] = x := ⟨_, rfl⟩
  obtain ⟨y, hy⟩ : ∃ y, s[1] = y := ⟨_, rfl⟩
  have HX := Lib.hid hx
  have HY := Lib.hid hy
  have HP := Lib.hid (show pairV s[0] s[1] = pairV x y by rw [hx, hy])
  have HB := Lib.hid (show (hexB s[0] && hexB s[1]) = (hexB x && hexB y) by rw [hx, hy])
  have cx := hex_any x
  have cy := hex_any y
  have HV := Lib.hid (pairV_nat x y)
  have HL := Lib.hid (hexN_lt x)
  have HR := Lib.hid (hexN_lt y)
  have HO := Lib.hid (or_nat (hexN x) (hexN y) HL.out HR.out)
  unfold HexPost at cx cy
  cases hbx : hexB x with
  | true =>
    rw [hbx] at cx
    generalize hexN x = a at *
    go_enter Tryd.func19, Tryd.ntmps19
    go_wp2_with fail
    refine (cx _).mono ?_
    rintro e w1 ⟨rfl, rfl⟩
    go_wp2_with fail
    refine (cy _).mono ?_
    rintro e w1 ⟨rfl, rfl⟩
    generalize hexN y = b at *
    go_wp2
    go_ret2
    refine ⟨ret_tuple2 (int_eq ?_) (bool_eq ?_), rfl⟩
    · rw [wrap_16 HL.out, HO.out, hx, hy, HV.out]
      have h1 := HL.out
      have h2 := HR.out
      omega
    · rw [hx, hy, hbx]; rfl
  | false =>
    rw [hbx] at cx
    generalize hexN x = a at *
    go_enter Tryd.func19, Tryd.ntmps19
    go_wp2_with fail
    refine (cx _).mono ?_
    rintro e w1 ⟨rfl, rfl⟩
    go_wp2_with fail
    refine (cy _).mono ?_
    rintro e w1 ⟨rfl, rfl⟩
    generalize hexN y = b at *
    go_wp2
    go_ret2
    refine ⟨ret_tuple2 (int_eq ?_) (bool_eq ?_), rfl⟩
    · rw [wrap_16 HL.out, HO.out, hx, hy, HV.out]
      have h1 := HL.out
      have h2 := HR.out
      omega
    · rw [hx, hy, hbx]; rfl
end Go.Proofs.YtokgpmelhmaokaaDoor
