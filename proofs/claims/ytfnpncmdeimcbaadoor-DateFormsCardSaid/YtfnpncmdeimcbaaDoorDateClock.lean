/-
  Two digits, and the clock's text.
-/
import Derived.Test.YtfnpncmdeimcbaaDoorDateMom
import Derived.Test.YtfnpncmdeimcbaaDoorKin
import Derived.Lib.Itoa
namespace Go.Proofs.YtfnpncmdeimcbaaDoor
open Go.RowKit DateMath

def arrD (l : Bs) : ByteArray := ⟨l.toArray⟩
theorem arrD_app (a b : Bs) : arrD a ++ arrD b = arrD (a ++ b) := by
  apply ByteArray.ext
  unfold arrD
  rw [ByteArray.data_append]
  simp
theorem arrD_size (l : Bs) : (arrD l).size = l.length := by show l.toArray.size = _; simp
theorem dec_one (n : Nat) (h : n < 10) : Lib.decDigits n = [dig n] := Lib.decDigits_one h
theorem dec_two (n : Nat) (h : 10 ≤ n) (h2 : n ≤ 99) : Lib.decDigits n = two2 n := by
  rw [Lib.decDigits, dif_neg (by omega), Lib.decDigits_one (show n / 10 < 10 by omega)]
  unfold two2 dig
  have e : n / 10 % 10 = n / 10 := by omega
  rw [e]
  rfl
theorem dec_four (n : Nat) (h : 1000 ≤ n) (h2 : n ≤ 9999) : Lib.decDigits n = two2 (n / 100) ++ two2 n := by
  rw [Lib.decDigits, dif_neg (by omega), Lib.decDigits, dif_neg (by omega), dec_two (n / 10 / 10) (by omega) (by omega)]
  unfold two2 dig
  have e : n / 10 / 10 = n / 100 := by omega
  rw [e]
  simp
set_option maxRecDepth 100000 in
set_option maxHeartbeats 4000000 in
theorem two_zero (n : Nat) (w : World) (h : n ≤ 99) : Calls Tryd.prog 31 #[.int .i64 n, .string ⟨#[48]⟩] w fun e w' => e = .returned (.string (arrD (two2 n))) ∧ w' = w := by
  by_cases h1 : n < 10
  · have hd : (⟨(Lib.decDigits n).toArray⟩ : ByteArray) = arrD [dig n] := by rw [dec_one n h1]; rfl
    have he : (⟨#[48]⟩ : ByteArray) ++ arrD [dig n] = arrD (two2 n) := by
      have : (⟨#[48]⟩ : ByteArray) = arrD [48] := rfl
      rw [this, arrD_app]
      unfold two2
      have e1 : n / 10 % 10 = 0 := by omega
      have e2 : n % 10 = n := by omega
      rw [e1, e2]
      rfl
    have cI := fun w => Tryd.strconv_Itoa_small n (by omega) w
    rw [hd] at cI
    have HE := Lib.hid he
    have hz : (arrD [dig n]).size = 1 := arrD_size _
    obtain ⟨x, hx⟩ : ∃ x, arrD [dig n] = x := ⟨_, rfl⟩
    rw [hx] at cI HE hz
    have CI := Lib.hid cI
    clear cI hd he hx
    have i1 : (n : Int) < 10 := by omega
    go_enter Tryd.func31, Tryd.ntmps31
    go_wp2_with fail
    refine (CI.out w).mono ?_
    rintro e w' ⟨rfl, rfl⟩
    go_wp2
    go_ret
    exact ⟨by rw [← HE.out]; rfl, rfl⟩
  · have hd : (⟨(Lib.decDigits n).toArray⟩ : ByteArray) = arrD (two2 n) := by rw [dec_two n (by omega) h]; rfl
    have cI := fun w => Tryd.strconv_Itoa_small n (by omega) w
    rw [hd] at cI
    have CI := Lib.hid cI
    clear cI hd
    have i1 : ¬ (n : Int) < 10 := by omega
    go_enter Tryd.func31, Tryd.ntmps31
    go_wp2_with fail
    refine (CI.out w).mono ?_
    rintro e w' ⟨rfl, rfl⟩
    go_wp2
    go_ret
    exact ⟨rfl, rfl⟩
set_option maxRecDepth 100000 in
set_option maxHeartbeats 4000000 in
theorem two_space (n : Nat) (w : World) (h : n ≤ 99) : Calls Tryd.prog 31 #[.int .i64 n, .string ⟨#[32]⟩] w fun e w' => e = .returned (.string (arrD (sp2 n))) ∧ w' = w := by
  by_cases h1 : n < 10
  · have hd : (⟨(Lib.decDigits n).toArray⟩ : ByteArray) = arrD [dig n] := by rw [dec_one n h1]; rfl
    have he : (⟨#[32]⟩ : ByteArray) ++ arrD [dig n] = arrD (sp2 n) := by
      have : (⟨#[32]⟩ : ByteArray) = arrD [32] := rfl
      rw [this, arrD_app]
      unfold sp2
      rw [if_pos h1]
      rfl
    have cI := fun w => Tryd.strconv_Itoa_small n (by omega) w
    rw [hd] at cI
    have HE := Lib.hid he
    have hz : (arrD [dig n]).size = 1 := arrD_size _
    obtain ⟨x, hx⟩ : ∃ x, arrD [dig n] = x := ⟨_, rfl⟩
    rw [hx] at cI HE hz
    have CI := Lib.hid cI
    clear cI hd he hx
    have i1 : (n : Int) < 10 := by omega
    go_enter Tryd.func31, Tryd.ntmps31
    go_wp2_with fail
    refine (CI.out w).mono ?_
    rintro e w' ⟨rfl, rfl⟩
    go_wp2
    go_ret
    exact ⟨by rw [← HE.out]; rfl, rfl⟩
  · have hd : (⟨(Lib.decDigits n).toArray⟩ : ByteArray) = arrD (sp2 n) := by rw [dec_two n (by omega) h]; unfold sp2; rw [if_neg h1]; rfl
    have cI := fun w => Tryd.strconv_Itoa_small n (by omega) w
    rw [hd] at cI
    have CI := Lib.hid cI
    clear cI hd
    have i1 : ¬ (n : Int) < 10 := by omega
    go_enter Tryd.func31, Tryd.ntmps31
    go_wp2_with fail
    refine (CI.out w).mono ?_
    rintro e w' ⟨rfl, rfl⟩
    go_wp2
    go_ret
    exact ⟨rfl, rfl⟩
theorem add_str {x y z : ByteArray} (h : x ++ y = z) (hs : x.size + y.size ≤ 1000) : (∀ w, (Op.stringOp .add x y).run Tryd.prog w = .ok (.string z) w) ∧ ¬ (9223372036854775807 < x.size + y.size) :=
  ⟨fun w => h ▸ run_string_add_sum w _ _ (by omega), by omega⟩
/-- The arguments of the six functions that take a moment. -/
def momW (w : World) (m : Mom) : World := w.alloc (.cells (momC m.year m.mon m.day m.hour m.min m.sec m.wd) 53)
set_option maxRecDepth 100000 in
set_option maxHeartbeats 8000000 in
theorem clock_any (y mo d h mi s wd : Nat) (w : World) (hh : h ≤ 99) (hmi : mi ≤ 99) (hs : s ≤ 99) : Calls Tryd.prog 33 #[.agg #[.int .i64 y, .int .i64 mo, .int .i64 d, .int .i64 h, .int .i64 mi, .int .i64 s, .int .i64 wd]] w fun e w' => e = .returned (.string (arrD (two2 h ++ 58 :: (two2 mi ++ 58 :: two2 s)))) ∧ Below w.heap.size w w' := by
  have c1 : Hid (∀ w, Calls Tryd.prog 31 #[.int .i64 h, .string ⟨#[48]⟩] w fun e w' => e = .returned (.string (arrD (two2 h))) ∧ w' = w) := Lib.hid (fun w => two_zero h w hh)
  have c2 : Hid (∀ w, Calls Tryd.prog 31 #[.int .i64 mi, .string ⟨#[48]⟩] w fun e w' => e = .returned (.string (arrD (two2 mi))) ∧ w' = w) := Lib.hid (fun w => two_zero mi w hmi)
  have c3 : Hid (∀ w, Calls Tryd.prog 31 #[.int .i64 s, .string ⟨#[48]⟩] w fun e w' => e = .returned (.string (arrD (two2 s))) ∧ w' = w) := Lib.hid (fun w => two_zero s w hs)
  have z1 : (arrD (two2 h)).size = 2 := arrD_size _
  have z2 : (arrD (two2 mi)).size = 2 := arrD_size _
  have z3 : (arrD (two2 s)).size = 2 := arrD_size _
  have zc : (⟨#[58]⟩ : ByteArray).size = 1 := rfl
  obtain ⟨A1, hA1⟩ : ∃ A, arrD (two2 h) ++ ⟨#[58]⟩ = A := ⟨_, rfl⟩
  obtain ⟨A2, hA2⟩ : ∃ A, A1 ++ arrD (two2 mi) = A := ⟨_, rfl⟩
  obtain ⟨A3, hA3⟩ : ∃ A, A2 ++ ⟨#[58]⟩ = A := ⟨_, rfl⟩
  obtain ⟨A4, hA4⟩ : ∃ A, A3 ++ arrD (two2 s) = A := ⟨_, rfl⟩
  have zA1 : A1.size = 3 := by rw [← hA1, ByteArray.size_append, z1, zc]
  have zA2 : A2.size = 5 := by rw [← hA2, ByteArray.size_append, zA1, z2]
  have zA3 : A3.size = 6 := by rw [← hA3, ByteArray.size_append, zA2, zc]
  obtain ⟨r1, d1⟩ := add_str hA1 (by omega)
  obtain ⟨r2, d2⟩ := add_str hA2 (by omega)
  obtain ⟨r3, d3⟩ := add_str hA3 (by omega)
  obtain ⟨r4, d4⟩ := add_str hA4 (by omega)
  have HE : Hid (A4 = arrD (two2 h ++ 58 :: (two2 mi ++ 58 :: two2 s))) := Lib.hid (by
    rw [← hA4, ← hA3, ← hA2, ← hA1]
    have : (⟨#[58]⟩ : ByteArray) = arrD [58] := rfl
    rw [this, arrD_app, arrD_app, arrD_app, arrD_app]
    congr 1)
  obtain ⟨x1, hx1⟩ : ∃ x, arrD (two2 h) = x := ⟨_, rfl⟩
  obtain ⟨x2, hx2⟩ : ∃ x, arrD (two2 mi) = x := ⟨_, rfl⟩
  obtain ⟨x3, hx3⟩ : ∃ x, arrD (two2 s) = x := ⟨_, rfl⟩
  rw [hx1] at c1 r1 d1
  rw [hx2] at c2 r2 d2
  rw [hx3] at c3 r4 d4
  clear hA1 hA2 hA3 hA4 hx1 hx2 hx3 z1 z2 z3 zc zA1 zA2 zA3
  go_enter Tryd.func33, Tryd.ntmps33
  go_wp2
  go_quiet ((first | (go_at_call 31; with_reducible exact Calls.quiet_of_same (c1.out _)) | (go_at_call 31; with_reducible exact Calls.quiet_of_same (c2.out _)) | (go_at_call 31; with_reducible exact Calls.quiet_of_same (c3.out _))))
  go_wp2
  go_ret
  exact ⟨by rw [← HE.out]; rfl, (((Spares.refl nowhere w).alloc _).drewN _).below0⟩
end Go.Proofs.YtfnpncmdeimcbaaDoor
