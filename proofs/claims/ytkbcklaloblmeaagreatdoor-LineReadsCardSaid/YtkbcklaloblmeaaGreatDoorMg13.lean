/-
  The time of a count, by the calendar.
  Two digits, and the clock's text.
-/
import Derived.Deep.MidRow
import Derived.Lib.Itoa
import Derived.Test.YtkbcklaloblmeaaGreatDoorMg12
import Derived.Test.YtkbcklaloblmeaaGreatDoorMg14
namespace Go.Proofs.YtkbcklaloblmeaaGreatDoor
open Go.RowKit DateMath

theorem mom_cells {y mo d h mi s wd : Nat} {a b c e f g k : Int} (h1 : a = y) (h2 : b = mo) (h3 : c = d) (h4 : e = h) (h5 : f = mi) (h6 : g = s) (h7 : k = wd) :
    Ending.returned (.agg #[.int .i64 a, .int .i64 b, .int .i64 c, .int .i64 e, .int .i64 f, .int .i64 g, .int .i64 k]) = .returned (.agg (momC y mo d h mi s wd)) := by
  subst h1 h2 h3 h4 h5 h6 h7; rfl
set_option maxRecDepth 100000 in
set_option maxHeartbeats 8000000 in
theorem moment_any (t : Nat) (w : World) (ht : t ≤ maxT) : Calls Tryz.prog 46 #[.int .i64 t] w fun e w' => e = .returned (momV (momOf t)) ∧ Spares nowhere w w' := by
  obtain ⟨n, hn⟩ : ∃ n, t / 86400 = n := ⟨_, rfl⟩
  obtain ⟨s, hs⟩ : ∃ s, t % 86400 = s := ⟨_, rfl⟩
  have hn2 : n ≤ 2932896 := by unfold maxT at ht; omega
  have hs2 : s ≤ 86399 := by omega
  have q1 : (t : Int) / 86400 = (n : Int) := by omega
  have q2 : (t : Int) % 86400 = (s : Int) := by omega
  have hb := doy_bound n
  have hy := yoe_ok (n400 n) (by unfold n400; omega)
  have hyM : yearM n ≤ 9999 := by
    have h1 := hy.1
    have h2 : (n + 719468) / 146097 ≤ 24 := by omega
    unfold yearM
    omega
  have HV : Hid (momV (momOf t) = .agg (momC (yearOf n) (monOf n) (dayOf n) (s / 3600) (s / 60 % 60) (s % 60) ((n + 4) % 7))) := Lib.hid (by unfold momV momOf; rw [hn, hs])
  have ht2 : t ≤ 253402300799 := ht
  have u1 : ((n : Int) + 719468) % 146097 = ((n400 n : Nat) : Int) := by unfold n400; omega
  have u0 : n400 n ≤ 146096 := by unfold n400; omega
  obtain ⟨a, ha⟩ : ∃ a, n400 n = a := ⟨_, rfl⟩
  have u2 : ((a : Int) - (a : Int) / 1460 + (a : Int) / 36524 - (a : Int) / 146096) / 365 = ((yoeN a : Nat) : Int) := by unfold yoeN; omega
  have u3 : (a : Int) - (365 * ((yoeN a : Nat) : Int) + ((yoeN a : Nat) : Int) / 4 - ((yoeN a : Nat) : Int) / 100) = ((doyN n : Nat) : Int) := by
    have := hy.2.1
    unfold doyN
    rw [ha] at this ⊢
    omega
  have u4 : (5 * ((doyN n : Nat) : Int) + 2) / 153 = ((mthN n : Nat) : Int) := by unfold mthN; omega
  have u5 : ((n : Int) + 719468) / 146097 * 400 + ((yoeN a : Nat) : Int) = ((yearM n : Nat) : Int) := by unfold yearM; rw [ha]; omega
  have u6 : ((doyN n : Nat) : Int) - (153 * ((mthN n : Nat) : Int) + 2) / 5 + 1 = ((dayOf n : Nat) : Int) := by
    have := hb.2.2
    unfold dayOf
    omega
  have hy3 : yoeN a ≤ 399 := by rw [← ha]; exact hy.1
  have hdo : dayOf n ≤ 366 := by unfold dayOf; omega
  have hM : monOf n = if mthN n + 2 > 11 then mthN n + 2 - 12 else mthN n + 2 := rfl
  have hY : yearOf n = if mthN n + 2 > 11 then yearM n + 1 else yearM n := rfl
  rw [ha] at u1 u0
  obtain ⟨y, hyy⟩ : ∃ y, yoeN a = y := ⟨_, rfl⟩
  obtain ⟨o, hoo⟩ : ∃ o, doyN n = o := ⟨_, rfl⟩
  obtain ⟨m, hmm⟩ : ∃ m, mthN n = m := ⟨_, rfl⟩
  obtain ⟨Y, hYY⟩ : ∃ Y, yearM n = Y := ⟨_, rfl⟩
  obtain ⟨d, hdd⟩ : ∃ d, dayOf n = d := ⟨_, rfl⟩
  rw [hyy] at u2 u3 u5 hy3
  rw [hoo] at u3 u4 u6 hb
  rw [hmm] at u4 u6 hb hM hY
  rw [hYY] at u5 hyM hY
  rw [hdd] at u6 hdo HV
  obtain ⟨hb1, hb2, hb3⟩ := hb
  have Q1 := Lib.hid q1
  have Q2 := Lib.hid q2
  have U1 := Lib.hid u1
  have U2 := Lib.hid u2
  have U3 := Lib.hid u3
  have U4 := Lib.hid u4
  have U5 := Lib.hid u5
  have U6 := Lib.hid u6
  have HM := Lib.hid hM
  have HY := Lib.hid hY
  clear hy ha hyy hoo hmm hYY hdd ht hn hs hb3 q1 q2 u1 u2 u3 u4 u5 u6 hM hY
  go_enter Tryz.func46, Tryz.ntmps46
  go_upto_region 2 with (fail)
  rw [Q1.out, Q2.out]
  go_upto_region 3 with (fail)
  go_upto_region 4 with (fail)
  rw [U1.out]
  go_upto_region 5 with (fail)
  rw [U2.out]
  go_upto_region 6 with (fail)
  rw [U3.out]
  go_upto_region 7 with (fail)
  rw [U4.out]
  go_upto_region 8 with (fail)
  rw [U5.out, U6.out]
  clear u0 hb1
  by_cases hbig : m + 2 > 11
  · have g1 : (11 : Int) < (m : Int) + 2 := by omega
    go_wp2
    refine bodyPost_ret (v := .agg #[.int .i64 ((Y : Int) + 1), .int .i64 ((m : Int) + 2 - 12), .int .i64 d, .int .i64 ((s : Int) / 3600), .int .i64 ((s : Int) / 60 % 60), .int .i64 ((s : Int) % 60), .int .i64 (((n : Int) + 4) % 7)]) (by simp [results, Tryz.results46, go_sem]) rfl ⟨?_, ((Spares.refl nowhere w).alloc _).alloc _⟩
    rw [HV.out, HM.out, HY.out, if_pos hbig, if_pos hbig]
    exact mom_cells (by omega) (by omega) rfl (by omega) (by omega) (by omega) (by omega)
  · have g1 : ¬ (11 : Int) < (m : Int) + 2 := by omega
    go_wp2
    refine bodyPost_ret (v := .agg #[.int .i64 (Y : Int), .int .i64 ((m : Int) + 2), .int .i64 d, .int .i64 ((s : Int) / 3600), .int .i64 ((s : Int) / 60 % 60), .int .i64 ((s : Int) % 60), .int .i64 (((n : Int) + 4) % 7)]) (by simp [results, Tryz.results46, go_sem]) rfl ⟨?_, ((Spares.refl nowhere w).alloc _).alloc _⟩
    rw [HV.out, HM.out, HY.out, if_neg hbig, if_neg hbig]
    exact mom_cells (by omega) (by omega) rfl (by omega) (by omega) (by omega) (by omega)
end Go.Proofs.YtkbcklaloblmeaaGreatDoor
namespace Go.Proofs.YtkbcklaloblmeaaGreatDoor
open Go.RowKit DateMath

def arrD (l : Bs) : ByteArray := ⟨l.toArray⟩
theorem arrD_app (a b : Bs) : arrD a ++ arrD b = arrD (a ++ b) := by
  apply ByteArray.ext
  unfold arrD
  rw [ByteArray.data_append]
  simp
theorem arrD_size (l : Bs) : (arrD l).size = l.length := by show l.toArray.size = _; simp
theorem dec_one (n : Nat) (h : n < 10) : Lib.decDigits n = [dig n] := Lib.decDigits_one h
theorem dec_two (n : Nat) (h : 10 ≤ n) (h2 : n ≤ 99) : Lib.decDigits n = two2 n := by
  rw [Lib.decDigits, dif_neg (by omega), Lib.decDigits_one (show n / 10 < 10 by omega)]
  unfold two2 dig
  have e : n / 10 % 10 = n / 10 := by omega
  rw [e]
  rfl
theorem dec_four (n : Nat) (h : 1000 ≤ n) (h2 : n ≤ 9999) : Lib.decDigits n = two2 (n / 100) ++ two2 n := by
  rw [Lib.decDigits, dif_neg (by omega), Lib.decDigits, dif_neg (by omega), dec_two (n / 10 / 10) (by omega) (by omega)]
  unfold two2 dig
  have e : n / 10 / 10 = n / 100 := by omega
  rw [e]
  simp
set_option maxRecDepth 100000 in
set_option maxHeartbeats 4000000 in
theorem two_zero (n : Nat) (w : World) (h : n ≤ 99) : Calls Tryz.prog 75 #[.int .i64 n, .string ⟨#[48]⟩] w fun e w' => e = .returned (.string (arrD (two2 n))) ∧ w' = w := by
  by_cases h1 : n < 10
  · have hd : (⟨(Lib.decDigits n).toArray⟩ : ByteArray) = arrD [dig n] := by rw [dec_one n h1]; rfl
    have he : (⟨#[48]⟩ : ByteArray) ++ arrD [dig n] = arrD (two2 n) := by
      have : (⟨#[48]⟩ : ByteArray) = arrD [48] := rfl
      rw [this, arrD_app]
      unfold two2
      have e1 : n / 10 % 10 = 0 := by omega
      have e2 : n % 10 = n := by omega
      rw [e1, e2]
      rfl
    have cI := fun w => Tryz.strconv_Itoa_small n (by omega) w
    rw [hd] at cI
    have HE := Lib.hid he
    have hz : (arrD [dig n]).size = 1 := arrD_size _
    obtain ⟨x, hx⟩ : ∃ x, arrD [dig n] = x := ⟨_, rfl⟩
    rw [hx] at cI HE hz
    have CI := Lib.hid cI
    clear cI hd he hx
    have i1 : (n : Int) < 10 := by omega
    go_enter Tryz.func75, Tryz.ntmps75
    go_wp2_with fail
    refine (CI.out w).mono ?_
    rintro e w' ⟨rfl, rfl⟩
    go_wp2
    go_ret
    exact ⟨by rw [← HE.out]; rfl, rfl⟩
  · have hd : (⟨(Lib.decDigits n).toArray⟩ : ByteArray) = arrD (two2 n) := by rw [dec_two n (by omega) h]; rfl
    have cI := fun w => Tryz.strconv_Itoa_small n (by omega) w
    rw [hd] at cI
    have CI := Lib.hid cI
    clear cI hd
    have i1 : ¬ (n : Int) < 10 := by omega
    go_enter Tryz.func75, Tryz.ntmps75
    go_wp2_with fail
    refine (CI.out w).mono ?_
    rintro e w' ⟨rfl, rfl⟩
    go_wp2
    go_ret
    exact ⟨rfl, rfl⟩
set_option maxRecDepth 100000 in
set_option maxHeartbeats 4000000 in
theorem two_space (n : Nat) (w : World) (h : n ≤ 99) : Calls Tryz.prog 75 #[.int .i64 n, .string ⟨#[32]⟩] w fun e w' => e = .returned (.string (arrD (sp2 n))) ∧ w' = w := by
  by_cases h1 : n < 10
  · have hd : (⟨(Lib.decDigits n).toArray⟩ : ByteArray) = arrD [dig n] := by rw [dec_one n h1]; rfl
    have he : (⟨#[32]⟩ : ByteArray) ++ arrD [dig n] = arrD (sp2 n) := by
      have : (⟨#[32]⟩ : ByteArray) = arrD [32] := rfl
      rw [this, arrD_app]
      unfold sp2
      rw [if_pos h1]
      rfl
    have cI := fun w => Tryz.strconv_Itoa_small n (by omega) w
    rw [hd] at cI
    have HE := Lib.hid he
    have hz : (arrD [dig n]).size = 1 := arrD_size _
    obtain ⟨x, hx⟩ : ∃ x, arrD [dig n] = x := ⟨_, rfl⟩
    rw [hx] at cI HE hz
    have CI := Lib.hid cI
    clear cI hd he hx
    have i1 : (n : Int) < 10 := by omega
    go_enter Tryz.func75, Tryz.ntmps75
    go_wp2_with fail
    refine (CI.out w).mono ?_
    rintro e w' ⟨rfl, rfl⟩
    go_wp2
    go_ret
    exact ⟨by rw [← HE.out]; rfl, rfl⟩
  · have hd : (⟨(Lib.decDigits n).toArray⟩ : ByteArray) = arrD (sp2 n) := by rw [dec_two n (by omega) h]; unfold sp2; rw [if_neg h1]; rfl
    have cI := fun w => Tryz.strconv_Itoa_small n (by omega) w
    rw [hd] at cI
    have CI := Lib.hid cI
    clear cI hd
    have i1 : ¬ (n : Int) < 10 := by omega
    go_enter Tryz.func75, Tryz.ntmps75
    go_wp2_with fail
    refine (CI.out w).mono ?_
    rintro e w' ⟨rfl, rfl⟩
    go_wp2
    go_ret
    exact ⟨rfl, rfl⟩
theorem add_str {x y z : ByteArray} (h : x ++ y = z) (hs : x.size + y.size ≤ 1000) : (∀ w, (Op.stringOp .add x y).run Tryz.prog w = .ok (.string z) w) ∧ ¬ (9223372036854775807 < x.size + y.size) :=
  ⟨fun w => h ▸ run_string_add_sum w _ _ (by omega), by omega⟩
set_option maxRecDepth 100000 in
set_option maxHeartbeats 8000000 in
theorem clock_any (y mo d h mi s wd : Nat) (w : World) (hh : h ≤ 99) (hmi : mi ≤ 99) (hs : s ≤ 99) : Calls Tryz.prog 76 #[.agg #[.int .i64 y, .int .i64 mo, .int .i64 d, .int .i64 h, .int .i64 mi, .int .i64 s, .int .i64 wd]] w fun e w' => e = .returned (.string (arrD (two2 h ++ 58 :: (two2 mi ++ 58 :: two2 s)))) ∧ Below w.heap.size w w' := by
  have c1 : Hid (∀ w, Calls Tryz.prog 75 #[.int .i64 h, .string ⟨#[48]⟩] w fun e w' => e = .returned (.string (arrD (two2 h))) ∧ w' = w) := Lib.hid (fun w => two_zero h w hh)
  have c2 : Hid (∀ w, Calls Tryz.prog 75 #[.int .i64 mi, .string ⟨#[48]⟩] w fun e w' => e = .returned (.string (arrD (two2 mi))) ∧ w' = w) := Lib.hid (fun w => two_zero mi w hmi)
  have c3 : Hid (∀ w, Calls Tryz.prog 75 #[.int .i64 s, .string ⟨#[48]⟩] w fun e w' => e = .returned (.string (arrD (two2 s))) ∧ w' = w) := Lib.hid (fun w => two_zero s w hs)
  have z1 : (arrD (two2 h)).size = 2 := arrD_size _
  have z2 : (arrD (two2 mi)).size = 2 := arrD_size _
  have z3 : (arrD (two2 s)).size = 2 := arrD_size _
  have zc : (⟨#[58]⟩ : ByteArray).size = 1 := rfl
  obtain ⟨A1, hA1⟩ : ∃ A, arrD (two2 h) ++ ⟨#[58]⟩ = A := ⟨_, rfl⟩
  obtain ⟨A2, hA2⟩ : ∃ A, A1 ++ arrD (two2 mi) = A := ⟨_, rfl⟩
  obtain ⟨A3, hA3⟩ : ∃ A, A2 ++ ⟨#[58]⟩ = A := ⟨_, rfl⟩
  obtain ⟨A4, hA4⟩ : ∃ A, A3 ++ arrD (two2 s) = A := ⟨_, rfl⟩
  have zA1 : A1.size = 3 := by rw [← hA1, ByteArray.size_append, z1, zc]
  have zA2 : A2.size = 5 := by rw [← hA2, ByteArray.size_append, zA1, z2]
  have zA3 : A3.size = 6 := by rw [← hA3, ByteArray.size_append, zA2, zc]
  obtain ⟨r1, d1⟩ := add_str hA1 (by omega)
  obtain ⟨r2, d2⟩ := add_str hA2 (by omega)
  obtain ⟨r3, d3⟩ := add_str hA3 (by omega)
  obtain ⟨r4, d4⟩ := add_str hA4 (by omega)
  have HE : Hid (A4 = arrD (two2 h ++ 58 :: (two2 mi ++ 58 :: two2 s))) := Lib.hid (by
    rw [← hA4, ← hA3, ← hA2, ← hA1]
    have : (⟨#[58]⟩ : ByteArray) = arrD [58] := rfl
    rw [this, arrD_app, arrD_app, arrD_app, arrD_app]
    congr 1)
  obtain ⟨x1, hx1⟩ : ∃ x, arrD (two2 h) = x := ⟨_, rfl⟩
  obtain ⟨x2, hx2⟩ : ∃ x, arrD (two2 mi) = x := ⟨_, rfl⟩
  obtain ⟨x3, hx3⟩ : ∃ x, arrD (two2 s) = x := ⟨_, rfl⟩
  rw [hx1] at c1 r1 d1
  rw [hx2] at c2 r2 d2
  rw [hx3] at c3 r4 d4
  clear hA1 hA2 hA3 hA4 hx1 hx2 hx3 z1 z2 z3 zc zA1 zA2 zA3
  go_enter Tryz.func76, Tryz.ntmps76
  go_wp2
  go_quiet ((first | (go_at_call 75; with_reducible exact Calls.quiet_of_same (c1.out _)) | (go_at_call 75; with_reducible exact Calls.quiet_of_same (c2.out _)) | (go_at_call 75; with_reducible exact Calls.quiet_of_same (c3.out _))))
  go_wp2
  go_ret
  exact ⟨by rw [← HE.out]; rfl, (((Spares.refl nowhere w).alloc _).drewN _).below0⟩
end Go.Proofs.YtkbcklaloblmeaaGreatDoor
