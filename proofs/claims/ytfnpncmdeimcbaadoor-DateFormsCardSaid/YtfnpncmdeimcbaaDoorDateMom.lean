/-
  The time of a count, by the calendar.
-/
import Derived.Test.YtfnpncmdeimcbaaDoorDateNums
import Derived.Deep.MidRow
namespace Go.Proofs.YtfnpncmdeimcbaaDoor
open Go.RowKit DateMath

theorem mom_cells {y mo d h mi s wd : Nat} {a b c e f g k : Int} (h1 : a = y) (h2 : b = mo) (h3 : c = d) (h4 : e = h) (h5 : f = mi) (h6 : g = s) (h7 : k = wd) :
    Ending.returned (.agg #[.int .i64 a, .int .i64 b, .int .i64 c, .int .i64 e, .int .i64 f, .int .i64 g, .int .i64 k]) = .returned (.agg (momC y mo d h mi s wd)) := by
  subst h1 h2 h3 h4 h5 h6 h7; rfl
set_option maxRecDepth 100000 in
set_option maxHeartbeats 8000000 in
theorem moment_any (t : Nat) (w : World) (ht : t ≤ maxT) : Calls Tryd.prog 14 #[.int .i64 t] w fun e w' => e = .returned (momV (momOf t)) ∧ Spares nowhere w w' := by
  obtain ⟨n, hn⟩ : ∃ n, t / 86400 = n := ⟨_, rfl⟩
  obtain ⟨s, hs⟩ : ∃ s, t % 86400 = s := ⟨_, rfl⟩
  have hn2 : n ≤ 2932896 := by unfold maxT at ht; omega
  have hs2 : s ≤ 86399 := by omega
  have q1 : (t : Int) / 86400 = (n : Int) := by omega
  have q2 : (t : Int) % 86400 = (s : Int) := by omega
  have hb := doy_bound n
  have hy := yoe_ok (n400 n) (by unfold n400; omega)
  have hyM : yearM n ≤ 9999 := by
    have h1 := hy.1
    have h2 : (n + 719468) / 146097 ≤ 24 := by omega
    unfold yearM
    omega
  have HV : Hid (momV (momOf t) = .agg (momC (yearOf n) (monOf n) (dayOf n) (s / 3600) (s / 60 % 60) (s % 60) ((n + 4) % 7))) := Lib.hid (by unfold momV momOf; rw [hn, hs])
  have ht2 : t ≤ 253402300799 := ht
  have u1 : ((n : Int) + 719468) % 146097 = ((n400 n : Nat) : Int) := by unfold n400; omega
  have u0 : n400 n ≤ 146096 := by unfold n400; omega
  obtain ⟨a, ha⟩ : ∃ a, n400 n = a := ⟨_, rfl⟩
  have u2 : ((a : Int) - (a : Int) / 1460 + (a : Int) / 36524 - (a : Int) / 146096) / 365 = ((yoeN a : Nat) : Int) := by unfold yoeN; omega
  have u3 : (a : Int) - (365 * ((yoeN a : Nat) : Int) + ((yoeN a : Nat) : Int) / 4 - ((yoeN a : Nat) : Int) / 100) = ((doyN n : Nat) : Int) := by
    have := hy.2.1
    unfold doyN
    rw [ha] at this ⊢
    omega
  have u4 : (5 * ((doyN n : Nat) : Int) + 2) / 153 = ((mthN n : Nat) : Int) := by unfold mthN; omega
  have u5 : ((n : Int) + 719468) / 146097 * 400 + ((yoeN a : Nat) : Int) = ((yearM n : Nat) : Int) := by unfold yearM; rw [ha]; omega
  have u6 : ((doyN n : Nat) : Int) - (153 * ((mthN n : Nat) : Int) + 2) / 5 + 1 = ((dayOf n : Nat) : Int) := by
    have := hb.2.2
    unfold dayOf
    omega
  have hy3 : yoeN a ≤ 399 := by rw [← ha]; exact hy.1
  have hdo : dayOf n ≤ 366 := by unfold dayOf; omega
  have hM : monOf n = if mthN n + 2 > 11 then mthN n + 2 - 12 else mthN n + 2 := rfl
  have hY : yearOf n = if mthN n + 2 > 11 then yearM n + 1 else yearM n := rfl
  rw [ha] at u1 u0
  obtain ⟨y, hyy⟩ : ∃ y, yoeN a = y := ⟨_, rfl⟩
  obtain ⟨o, hoo⟩ : ∃ o, doyN n = o := ⟨_, rfl⟩
  obtain ⟨m, hmm⟩ : ∃ m, mthN n = m := ⟨_, rfl⟩
  obtain ⟨Y, hYY⟩ : ∃ Y, yearM n = Y := ⟨_, rfl⟩
  obtain ⟨d, hdd⟩ : ∃ d, dayOf n = d := ⟨_, rfl⟩
  rw [hyy] at u2 u3 u5 hy3
  rw [hoo] at u3 u4 u6 hb
  rw [hmm] at u4 u6 hb hM hY
  rw [hYY] at u5 hyM hY
  rw [hdd] at u6 hdo HV
  obtain ⟨hb1, hb2, hb3⟩ := hb
  have Q1 := Lib.hid q1
  have Q2 := Lib.hid q2
  have U1 := Lib.hid u1
  have U2 := Lib.hid u2
  have U3 := Lib.hid u3
  have U4 := Lib.hid u4
  have U5 := Lib.hid u5
  have U6 := Lib.hid u6
  have HM := Lib.hid hM
  have HY := Lib.hid hY
  clear hy ha hyy hoo hmm hYY hdd ht hn hs hb3 q1 q2 u1 u2 u3 u4 u5 u6 hM hY
  go_enter Tryd.func14, Tryd.ntmps14
  go_upto_region 2 with (fail)
  rw [Q1.out, Q2.out]
  go_upto_region 3 with (fail)
  go_upto_region 4 with (fail)
  rw [U1.out]
  go_upto_region 5 with (fail)
  rw [U2.out]
  go_upto_region 6 with (fail)
  rw [U3.out]
  go_upto_region 7 with (fail)
  rw [U4.out]
  go_upto_region 8 with (fail)
  rw [U5.out, U6.out]
  clear u0 hb1
  by_cases hbig : m + 2 > 11
  · have g1 : (11 : Int) < (m : Int) + 2 := by omega
    go_wp2
    refine bodyPost_ret (v := .agg #[.int .i64 ((Y : Int) + 1), .int .i64 ((m : Int) + 2 - 12), .int .i64 d, .int .i64 ((s : Int) / 3600), .int .i64 ((s : Int) / 60 % 60), .int .i64 ((s : Int) % 60), .int .i64 (((n : Int) + 4) % 7)]) (by simp [results, Tryd.results14, go_sem]) rfl ⟨?_, ((Spares.refl nowhere w).alloc _).alloc _⟩
    rw [HV.out, HM.out, HY.out, if_pos hbig, if_pos hbig]
    exact mom_cells (by omega) (by omega) rfl (by omega) (by omega) (by omega) (by omega)
  · have g1 : ¬ (11 : Int) < (m : Int) + 2 := by omega
    go_wp2
    refine bodyPost_ret (v := .agg #[.int .i64 (Y : Int), .int .i64 ((m : Int) + 2), .int .i64 d, .int .i64 ((s : Int) / 3600), .int .i64 ((s : Int) / 60 % 60), .int .i64 ((s : Int) % 60), .int .i64 (((n : Int) + 4) % 7)]) (by simp [results, Tryd.results14, go_sem]) rfl ⟨?_, ((Spares.refl nowhere w).alloc _).alloc _⟩
    rw [HV.out, HM.out, HY.out, if_neg hbig, if_neg hbig]
    exact mom_cells (by omega) (by omega) rfl (by omega) (by omega) (by omega) (by omega)
end Go.Proofs.YtfnpncmdeimcbaaDoor
