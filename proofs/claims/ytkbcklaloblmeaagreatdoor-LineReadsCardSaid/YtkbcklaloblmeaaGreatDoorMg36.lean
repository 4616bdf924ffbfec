/-
  The reference's Text.
-/
import Derived.Test.YtkbcklaloblmeaaGreatDoorMg16
import Derived.Test.YtkbcklaloblmeaaGreatDoorMg35
namespace Go.Proofs.YtkbcklaloblmeaaGreatDoor
open Go.RowKit DateMath

theorem ahead_le : ∀ k : Nat, aheadN (1970 + k) ≤ 366 * k
  | 0 => by decide
  | k + 1 => by
    have ih := ahead_le k
    have h := ahead_succ (1970 + k) (by omega)
    have hl := leap_cases (1970 + k)
    have e : 1970 + (k + 1) = 1970 + k + 1 := rfl
    rw [e, h]
    omega
theorem year_le {y n : Nat} (h : aheadN y ≤ n) (hn : n ≤ 2932896) : y ≤ 9999 := by
  by_cases hy : y ≤ 9999
  · exact hy
  · have := ahead_mono 10000 (by decide) (y - 10000)
    rw [show 10000 + (y - 10000) = y by omega] at this
    have e : aheadN 10000 = 2932897 := by decide
    omega
theorem year_is {y n : Nat} (hn : n ≤ 2932896) (h1 : aheadN y ≤ n) (h2 : (n : Int) < aheadN (y + 1)) (hy : 1970 ≤ y) : y = yearOf n := by
  obtain ⟨o, d⟩ := civ_ok n hn
  rw [days_eq _ _ _ (by have := o.y1; omega) o.m1] at d
  have b := day_in o
  rw [d] at b
  have y1 := o.y1
  rcases Nat.lt_trichotomy y (yearOf n) with q | q | q
  · have := ahead_mono (y + 1) (by omega) (yearOf n - (y + 1))
    rw [show y + 1 + (yearOf n - (y + 1)) = yearOf n by omega] at this
    omega
  · exact q
  · have := ahead_mono (yearOf n + 1) (by omega) (y - (yearOf n + 1))
    rw [show yearOf n + 1 + (y - (yearOf n + 1)) = y by omega] at this
    omega
theorem day_is {n k L : Nat} (hn : n ≤ 2932896) (hk : k ≤ 11) (hL : (L : Int) = n - aheadN (yearOf n) - cumN (yearOf n) k) (hl : L < lenN (yearOf n) k) : k = monOf n ∧ L + 1 = dayOf n := by
  obtain ⟨o, d⟩ := civ_ok n hn
  rw [days_eq _ _ _ (by have := o.y1; omega) o.m1] at d
  have := day_one (y := yearOf n) (m := k) (d := L + 1) ⟨o.y1, o.y2, hk, by omega, by omega⟩ o (by rw [d]; unfold dayN; omega)
  exact ⟨this.2.1, this.2.2⟩
theorem row_getD {w : World} {g : Nat} {L : List Bs} (h : RowAt w g L) (k : Nat) (hk : k < L.length) : w.cell? ⟨g, k, none⟩ = some (.string (arrD (L.getD k []))) := by
  rw [row_cells h k hk, List.getD_eq_getElem?_getD, List.getElem?_eq_getElem hk]
  rfl
theorem wrap_n (k : Nat) (hk : k ≤ 140737488351232) : IntKind.i64.wrap (k : Int) = (k : Int) := wrap_in (by omega) (by omega)
theorem wrap_d (s : Nat) (hs : s ≤ 86399) : IntKind.i64.wrap ((s : Int) / 60) = (s : Int) / 60 := wrap_in (by omega) (by omega)
theorem block_of {x : World} {g k : Nat} {v : Value} (h : x.cell? ⟨g, k, none⟩ = some v) : g < x.heap.size := by
  rcases Nat.lt_or_ge g x.heap.size with h1 | h1
  · exact h1
  · simp [World.cell?, Array.getElem?_eq_none h1] at h
set_option maxRecDepth 100000 in
set_option maxHeartbeats 16000000 in
theorem refText_any (t : Int) (w : World) : Calls Tryz.prog 27 #[.int .i64 t] w fun e w' => e = .returned (.string (arrD (plainT (momOf (clampN t))))) ∧ Below w.heap.size w w' := by
  have hle := clampN_le t
  have hci := clampN_int t
  obtain ⟨T, hT⟩ : ∃ T, clampN t = T := ⟨_, rfl⟩
  rw [hT] at hle hci ⊢
  have HCI : Hid (min (max t 0) 253402300799 = (T : Int)) := Lib.hid hci.symm
  have ho := mom_ok T hle
  obtain ⟨n, hn⟩ : ∃ n, T / 86400 = n := ⟨_, rfl⟩
  obtain ⟨s, hs⟩ : ∃ s, T % 86400 = s := ⟨_, rfl⟩
  have hn2 : n ≤ 2932896 := by unfold maxT at hle; omega
  have hs2 : s ≤ 86399 := by omega
  have Q1 : Hid ((T : Int) / 86400 = (n : Int)) := Lib.hid (by omega)
  have Q2 : Hid ((T : Int) % 86400 = (s : Int)) := Lib.hid (by omega)
  have hTb : T ≤ 253402300799 := hle
  have HMOM : Hid (momOf T = ⟨yearOf n, monOf n, dayOf n, s / 3600, s / 60 % 60, s % 60, (n + 4) % 7⟩) := Lib.hid (by unfold momOf; rw [hn, hs])
  have HO := Lib.hid ho
  obtain ⟨P, hP⟩ : ∃ P, arrD (plainT (momOf T)) = P := ⟨_, rfl⟩
  have HP := Lib.hid hP
  rw [hP]
  clear hci hT hle hn hs ho hP
  go_enter Tryz.func27, Tryz.ntmps27
  go_upto_region 2 with (fail)
  have hci := HCI.out
  rw [hci]
  clear hci
  go_upto_region 3 with (fail)
  rw [Q1.out, Q2.out]
  go_wp2_with fail
  go_loop [5] (fun y => ∃ Y : Nat, 1970 ≤ Y ∧ Y ≤ 9999 ∧ y = .int .i64 Y ∧ Hid (aheadN Y ≤ n)) (fun y => 10000 - (intOf y).toNat)
  case atStart => exact ⟨1970 + n / 366, by omega, year_le (by have := ahead_le (n / 366); omega) hn2, by first | rfl | (congr 1; omega) | congr 1, Lib.hid (by have := ahead_le (n / 366); omega)⟩
  case round =>
    obtain ⟨Y, hY1, hY2, rfl, HY⟩ := hrel
    have cA := ahead_any (Y + 1) w (by omega) (by omega)
    have hcs : ((Y + 1 : Nat) : Int) = (Y : Int) + 1 := by omega
    rw [hcs] at cA
    have hab := ahead_bd (Y + 1) (by omega)
    have CA := Lib.hid cA
    by_cases hlt : aheadN (Y + 1) ≤ n
    · have hY3 : Y + 1 ≤ 9999 := year_le hlt hn2
      have HY' := Lib.hid hlt
      obtain ⟨a, ha⟩ : ∃ a, aheadN (Y + 1) = a := ⟨_, rfl⟩
      rw [ha] at CA hab hlt
      have d1 : decide (a ≤ (n : Int)) = true := decide_eq_true hlt
      clear ha hcs cA
      go_wp2_with fail
      refine CA.out.mono ?_
      rintro e w1 ⟨rfl, hw1⟩
      replace hw1 := hw1.symm
      subst hw1
      go_wp2
      go_round
      case rel => exact ⟨Y + 1, by omega, hY3, by go_num, HY'⟩
      case measure => simp [intOf]; omega
    · have HYE := Lib.hid (year_is hn2 HY.out (by omega) hY1)
      have HUP : Hid ((n : Int) < aheadN (Y + 1)) := Lib.hid (by omega)
      have HSU := Lib.hid (ahead_succ Y (by omega))
      have cB := ahead_any Y w (by omega) (by omega)
      have hbb := ahead_bd Y (by omega)
      have HLE := HY.out
      obtain ⟨a, ha⟩ : ∃ a, aheadN (Y + 1) = a := ⟨_, rfl⟩
      rw [ha] at CA hab hlt HUP HSU
      obtain ⟨b, hb⟩ : ∃ b, aheadN Y = b := ⟨_, rfl⟩
      have HBB := Lib.hid hb
      rw [hb] at cB hbb HLE HSU
      have CB := Lib.hid cB
      have d1 : decide (a ≤ (n : Int)) = false := decide_eq_false hlt
      have hbn : b ≤ (n : Int) := HLE
      clear ha hcs cA cB hlt HY HLE hb
      go_wp2_with fail
      refine CA.out.mono ?_
      rintro e w1 ⟨rfl, hw1⟩
      replace hw1 := hw1.symm
      subst hw1
      go_wp2_with fail
      refine CB.out.mono ?_
      rintro e w1 ⟨rfl, hw1⟩
      replace hw1 := hw1.symm
      subst hw1
      go_wp2_with fail
      go_loopw [6, 7] (fun lv mv wr => ∃ k L : Nat, k ≤ 11 ∧ L ≤ 400 ∧ mv = .int .i64 ((k + 1 : Nat) : Int) ∧ lv = .int .i64 L ∧ Hid ((L : Int) = n - b - cumN Y k) ∧ Hid (Below w.heap.size w wr)) (fun _ mv _ => 13 - (intOf mv).toNat)
      case atStart =>
        have h1 := HSU.out
        have h2 := HUP.out
        have hl1 : leapN Y ≤ 1 := by have := leap_cases Y; omega
        refine ⟨0, ((n : Int) - b).toNat, by decide, by omega, rfl, by congr 1; omega, Lib.hid (by show ((((n : Int) - b).toNat : Nat) : Int) = (n : Int) - b - 0; omega), Lib.hid (Below.refl _ _)⟩
      case round =>
        obtain ⟨k, L, hk, hL, rfl, rfl, HLK, HB⟩ := hrel
        have cL := length_any Y k wr (by omega) hk
        have hlb : lenN Y k ≤ 31 := by unfold lenN; split <;> first | omega | (have := leap_cases Y; omega)
        have CL := Lib.hid cL
        by_cases hge : lenN Y k ≤ L
        · have hk2 : k + 1 ≤ 11 := by
            have h1 := HLK.out
            have h2 := HSU.out
            have h3 := HUP.out
            have h4 := cum_year Y
            by_cases hk11 : k = 11
            · subst hk11
              have h5 : cumN Y 12 = cumN Y 11 + lenN Y 11 := rfl
              omega
            · omega
          have HLK' : Hid (((L - lenN Y k : Nat) : Int) = n - b - cumN Y (k + 1)) := Lib.hid (by
            have h1 := HLK.out
            have h5 : cumN Y (k + 1) = cumN Y k + lenN Y k := rfl
            omega)
          obtain ⟨ln, hln⟩ : ∃ ln, lenN Y k = ln := ⟨_, rfl⟩
          rw [hln] at CL hlb hge HLK'
          have d1 : decide ((ln : Int) ≤ (L : Int)) = true := decide_eq_true (by omega)
          have d1n : decide (ln ≤ L) = true := decide_eq_true hge
          have hli : (ln : Int) ≤ (L : Int) := by omega
          have CL2 := Lib.hid (fun x => hln ▸ length_any Y k x (by omega) hk)
          clear hln cL
          go_wp2_with fail
          refine CL.out.mono ?_
          rintro e w2 ⟨rfl, hb2⟩
          have HB2 := Lib.hid (HB.out.trans (hb2.mono HB.out.size))
          clear hb2
          go_wp2_with fail
          refine (CL2.out w2).mono ?_
          rintro e w3 ⟨rfl, hb3⟩
          have HB3 := Lib.hid (HB2.out.trans (hb3.mono HB2.out.size))
          clear hb3
          go_wp2
          go_roundw
          case rel => exact ⟨k + 1, L - ln, hk2, by omega, by go_num, by congr 1; omega, HLK', HB3⟩
          case measure => simp [intOf]; omega
        · have HD := Lib.hid (day_is (n := n) (k := k) (L := L) hn2 hk (by rw [← HYE.out, HBB.out]; exact HLK.out) (by rw [← HYE.out]; omega))
          obtain ⟨ln, hln⟩ : ∃ ln, lenN Y k = ln := ⟨_, rfl⟩
          rw [hln] at CL hlb hge
          have d1 : decide ((ln : Int) ≤ (L : Int)) = false := decide_eq_false (by omega)
          have d1n : decide (ln ≤ L) = false := decide_eq_false hge
          have hL3 : L ≤ 30 := by omega
          clear hln cL
          go_wp2_with fail
          refine CL.out.mono ?_
          rintro e w2 ⟨rfl, hb2⟩
          have HB2 := Lib.hid (HB.out.trans (hb2.mono HB.out.size))
          clear hb2 CL hge hlb
          have hMM : momOf T = ⟨Y, k, L + 1, s / 3600, s / 60 % 60, s % 60, (n + 4) % 7⟩ := by rw [HMOM.out, ← HYE.out, ← HD.out.1, ← HD.out.2]
          have hPP : P = arrD (plainT ⟨Y, k, L + 1, s / 3600, s / 60 % 60, s % 60, (n + 4) % 7⟩) := by rw [← HP.out, hMM]
          obtain ⟨K, hK⟩ : ∃ K, (n + 4) % 7 = K := ⟨_, rfl⟩
          obtain ⟨mi, hmi⟩ : ∃ x, s / 60 % 60 = x := ⟨_, rfl⟩
          obtain ⟨se, hse⟩ : ∃ x, s % 60 = x := ⟨_, rfl⟩
          obtain ⟨hh, hhh⟩ : ∃ x, s / 3600 = x := ⟨_, rfl⟩
          obtain ⟨y1, hy1⟩ : ∃ x, Y / 100 = x := ⟨_, rfl⟩
          obtain ⟨y2, hy2⟩ : ∃ x, Y % 100 = x := ⟨_, rfl⟩
          rw [hK, hmi, hse, hhh] at hPP
          have hKb : K ≤ 6 := by omega
          obtain ⟨dd, hdd⟩ : ∃ x, L + 1 = x := ⟨_, rfl⟩
          rw [hdd] at hPP
          have c1 := fun x => refTwo_any dd x (by omega)
          have c2 := fun x => refTwo_any y1 x (by omega)
          have c3 := fun x => refTwo_any y2 x (by omega)
          have c4 := fun x => refTwo_any hh x (by omega)
          have c5 := fun x => refTwo_any mi x (by omega)
          have c6 := fun x => refTwo_any se x (by omega)
          obtain ⟨T1, hT1⟩ : ∃ x, arrD (two2 dd) = x := ⟨_, rfl⟩
          rw [hT1] at c1
          have zT1 : T1.size = 2 := arr_len hT1
          obtain ⟨T2, hT2⟩ : ∃ x, arrD (two2 y1) = x := ⟨_, rfl⟩
          rw [hT2] at c2
          have zT2 : T2.size = 2 := arr_len hT2
          obtain ⟨T3, hT3⟩ : ∃ x, arrD (two2 y2) = x := ⟨_, rfl⟩
          rw [hT3] at c3
          have zT3 : T3.size = 2 := arr_len hT3
          obtain ⟨T4, hT4⟩ : ∃ x, arrD (two2 hh) = x := ⟨_, rfl⟩
          rw [hT4] at c4
          have zT4 : T4.size = 2 := arr_len hT4
          obtain ⟨T5, hT5⟩ : ∃ x, arrD (two2 mi) = x := ⟨_, rfl⟩
          rw [hT5] at c5
          have zT5 : T5.size = 2 := arr_len hT5
          obtain ⟨T6, hT6⟩ : ∃ x, arrD (two2 se) = x := ⟨_, rfl⟩
          rw [hT6] at c6
          have zT6 : T6.size = 2 := arr_len hT6
          obtain ⟨D, hD⟩ : ∃ x, arrD (day3L.getD K []) = x := ⟨_, rfl⟩
          obtain ⟨O, hO⟩ : ∃ x, arrD (monL.getD k []) = x := ⟨_, rfl⟩
          have zD : D.size = 3 := by
            have key : ∀ k : Nat, k ≤ 6 → (day3L.getD k []).length = 3 := by decide
            rw [arr_len hD]; exact key K hKb
          have zO : O.size = 3 := by
            have key : ∀ k : Nat, k ≤ 11 → (monL.getD k []).length = 3 := by decide
            rw [arr_len hO]; exact key k hk
          have RD := Lib.hid (fun (x : World) (g : Nat) (h : RowAt x g day3L) => hD ▸ row_getD h K (by have : day3L.length = 7 := rfl; omega))
          have RO := Lib.hid (fun (x : World) (g : Nat) (h : RowAt x g monL) => hO ▸ row_getD h k (by have : monL.length = 12 := rfl; omega))
          have zL1 : (⟨#[44, 32]⟩ : ByteArray).size = 2 := rfl
          obtain ⟨A1, hA1⟩ : ∃ A, D ++ ⟨#[44, 32]⟩ = A := ⟨_, rfl⟩
          have zA1 : A1.size = D.size + 2 := by rw [← hA1, ByteArray.size_append, zL1]
          obtain ⟨A2, hA2⟩ : ∃ A, A1 ++ T1 = A := ⟨_, rfl⟩
          have zA2 : A2.size = A1.size + T1.size := by rw [← hA2, ByteArray.size_append]
          have zL3 : (⟨#[32]⟩ : ByteArray).size = 1 := rfl
          obtain ⟨A3, hA3⟩ : ∃ A, A2 ++ ⟨#[32]⟩ = A := ⟨_, rfl⟩
          have zA3 : A3.size = A2.size + 1 := by rw [← hA3, ByteArray.size_append, zL3]
          obtain ⟨A4, hA4⟩ : ∃ A, A3 ++ O = A := ⟨_, rfl⟩
          have zA4 : A4.size = A3.size + O.size := by rw [← hA4, ByteArray.size_append]
          have zL5 : (⟨#[32]⟩ : ByteArray).size = 1 := rfl
          obtain ⟨A5, hA5⟩ : ∃ A, A4 ++ ⟨#[32]⟩ = A := ⟨_, rfl⟩
          have zA5 : A5.size = A4.size + 1 := by rw [← hA5, ByteArray.size_append, zL5]
          obtain ⟨A6, hA6⟩ : ∃ A, A5 ++ T2 = A := ⟨_, rfl⟩
          have zA6 : A6.size = A5.size + T2.size := by rw [← hA6, ByteArray.size_append]
          obtain ⟨A7, hA7⟩ : ∃ A, A6 ++ T3 = A := ⟨_, rfl⟩
          have zA7 : A7.size = A6.size + T3.size := by rw [← hA7, ByteArray.size_append]
          have zL8 : (⟨#[32]⟩ : ByteArray).size = 1 := rfl
          obtain ⟨A8, hA8⟩ : ∃ A, A7 ++ ⟨#[32]⟩ = A := ⟨_, rfl⟩
          have zA8 : A8.size = A7.size + 1 := by rw [← hA8, ByteArray.size_append, zL8]
          obtain ⟨A9, hA9⟩ : ∃ A, A8 ++ T4 = A := ⟨_, rfl⟩
          have zA9 : A9.size = A8.size + T4.size := by rw [← hA9, ByteArray.size_append]
          have zL10 : (⟨#[58]⟩ : ByteArray).size = 1 := rfl
          obtain ⟨A10, hA10⟩ : ∃ A, A9 ++ ⟨#[58]⟩ = A := ⟨_, rfl⟩
          have zA10 : A10.size = A9.size + 1 := by rw [← hA10, ByteArray.size_append, zL10]
          obtain ⟨A11, hA11⟩ : ∃ A, A10 ++ T5 = A := ⟨_, rfl⟩
          have zA11 : A11.size = A10.size + T5.size := by rw [← hA11, ByteArray.size_append]
          have zL12 : (⟨#[58]⟩ : ByteArray).size = 1 := rfl
          obtain ⟨A12, hA12⟩ : ∃ A, A11 ++ ⟨#[58]⟩ = A := ⟨_, rfl⟩
          have zA12 : A12.size = A11.size + 1 := by rw [← hA12, ByteArray.size_append, zL12]
          obtain ⟨A13, hA13⟩ : ∃ A, A12 ++ T6 = A := ⟨_, rfl⟩
          have zA13 : A13.size = A12.size + T6.size := by rw [← hA13, ByteArray.size_append]
          have zL14 : (⟨#[32, 71, 77, 84]⟩ : ByteArray).size = 4 := rfl
          obtain ⟨A14, hA14⟩ : ∃ A, A13 ++ ⟨#[32, 71, 77, 84]⟩ = A := ⟨_, rfl⟩
          have zA14 : A14.size = A13.size + 4 := by rw [← hA14, ByteArray.size_append, zL14]
          have HZ := Lib.hid (show A1.size ≤ 40 ∧ A2.size ≤ 40 ∧ A3.size ≤ 40 ∧ A4.size ≤ 40 ∧ A5.size ≤ 40 ∧ A6.size ≤ 40 ∧ A7.size ≤ 40 ∧ A8.size ≤ 40 ∧ A9.size ≤ 40 ∧ A10.size ≤ 40 ∧ A11.size ≤ 40 ∧ A12.size ≤ 40 ∧ A13.size ≤ 40 ∧ A14.size ≤ 40 from ⟨by omega, by omega, by omega, by omega, by omega, by omega, by omega, by omega, by omega, by omega, by omega, by omega, by omega, by omega⟩)
          obtain ⟨r1, s1⟩ := add_str hA1 (by omega)
          obtain ⟨r2, s2⟩ := add_str hA2 (by omega)
          obtain ⟨r3, s3⟩ := add_str hA3 (by omega)
          obtain ⟨r4, s4⟩ := add_str hA4 (by omega)
          obtain ⟨r5, s5⟩ := add_str hA5 (by omega)
          obtain ⟨r6, s6⟩ := add_str hA6 (by omega)
          obtain ⟨r7, s7⟩ := add_str hA7 (by omega)
          obtain ⟨r8, s8⟩ := add_str hA8 (by omega)
          obtain ⟨r9, s9⟩ := add_str hA9 (by omega)
          obtain ⟨r10, s10⟩ := add_str hA10 (by omega)
          obtain ⟨r11, s11⟩ := add_str hA11 (by omega)
          obtain ⟨r12, s12⟩ := add_str hA12 (by omega)
          obtain ⟨r13, s13⟩ := add_str hA13 (by omega)
          obtain ⟨r14, s14⟩ := add_str hA14 (by omega)
          have HE : Hid (P = A14) := Lib.hid (by
            rw [hPP, ← hA14, ← hA13, ← hA12, ← hA11, ← hA10, ← hA9, ← hA8, ← hA7, ← hA6, ← hA5, ← hA4, ← hA3, ← hA2, ← hA1, ← hD, ← hO, ← hT1, ← hT2, ← hT3, ← hT4, ← hT5, ← hT6]
            have t0 : (⟨#[32]⟩ : ByteArray) = arrD [32] := rfl
            have t1 : (⟨#[32, 71, 77, 84]⟩ : ByteArray) = arrD [32, 71, 77, 84] := rfl
            have t2 : (⟨#[44, 32]⟩ : ByteArray) = arrD [44, 32] := rfl
            have t3 : (⟨#[58]⟩ : ByteArray) = arrD [58] := rfl
            rw [t0, t1, t2, t3]
            simp only [arrD_app]
            unfold plainT clockT monT
            rw [show day3 ⟨Y, k, dd, hh, mi, se, K⟩ = day3L.getD K [] from (day3_map ⟨Y, k, dd, hh, mi, se, K⟩).symm, hy1, two2_mod Y, hy2]
            simp only [List.append_assoc, List.cons_append, List.nil_append])
          have C1 := Lib.hid c1
          have C2 := Lib.hid c2
          have C3 := Lib.hid c3
          have C4 := Lib.hid c4
          have C5 := Lib.hid c5
          have C6 := Lib.hid c6
          clear zD zO zT1 zT2 zT3 zT4 zT5 zT6 zL1 zL3 zL5 zL8 zL10 zL12 zL14 zA1 zA2 zA3 zA4 zA5 zA6 zA7 zA8 zA9 zA10 zA11 zA12 zA13 zA14 hA1 hA2 hA3 hA4 hA5 hA6 hA7 hA8 hA9 hA10 hA11 hA12 hA13 hA14 HZ hPP hMM c1 c2 c3 c4 c5 c6 hD hO hT1 hT2 hT3 hT4 hT5 hT6 HD HMOM HO HP HYE HUP HSU HBB HLK HB hTb
          have f1 : ((n : Int) + 4).tmod 7 = (K : Int) := by rw [Int.tmod_eq_emod_of_nonneg (by omega)]; omega
          have f2 : (Y : Int).tmod 100 = (y2 : Int) := by rw [Int.tmod_eq_emod_of_nonneg (by omega)]; omega
          have f3 : ((s : Int) / 60).tmod 60 = (mi : Int) := by rw [Int.tmod_eq_emod_of_nonneg (by omega)]; omega
          have f4 : (s : Int).tmod 60 = (se : Int) := by rw [Int.tmod_eq_emod_of_nonneg (by omega)]; omega
          have f5 : (Y : Int) / 100 = (y1 : Int) := by omega
          have f6 : (s : Int) / 3600 = (hh : Int) := by omega
          have f8 : (L : Int) + 1 = (dd : Int) := by omega
          have k0 : (dd : Int) ≤ 100 := by omega
          have k1 : (K : Int) < 7 := by omega
          have k2 : (k : Int) < 12 := by omega
          have nb : (n : Int) ≤ 2932896 := by omega
          have g1 : IntKind.i64.wrap ((n : Int) + 4) = (n : Int) + 4 := wrap_k n 4 (by omega) (by decide)
          have g2 : IntKind.i64.wrap (dd : Int) = (dd : Int) := wrap_n dd (by omega)
          have g3 : IntKind.i64.wrap (y1 : Int) = (y1 : Int) := wrap_n y1 (by omega)
          have g4 : IntKind.i64.wrap (hh : Int) = (hh : Int) := wrap_n hh (by omega)
          have g5 : IntKind.i64.wrap ((s : Int) / 60) = (s : Int) / 60 := wrap_d s (by omega)
          have g7 : IntKind.i64.wrap (k : Int) = (k : Int) := wrap_n k (by omega)
          clear hK hmi hse hhh hy1 hy2 hdd
          go_wp2
          refine wp_region_held_drew (S := fun _ => True) (by kernel_rfl) trivial (fun hH => ?_)
          refine wpAnyH_takeTo (i := 1) (d := some 42) (v := .int .i64 n) rfl rfl (by kernel_rfl) (by kernel_rfl) (by kernel_rfl) (fun _ _ _ h => h) (Or.inl ⟨by rfl, fun x hx => ?_⟩) hH ?_
          · go_simp
          try simp only [Act.put, List.setIfInBounds_toArray, List.set_cons_zero, List.set_cons_succ]
          refine wpAnyH_takeTo (i := 2) (d := some 43) (v := .int .i64 ((n : Int) + 4)) rfl rfl (by kernel_rfl) (by kernel_rfl) (by kernel_rfl) (fun _ _ _ h => h) (Or.inl ⟨by rfl, fun x hx => ?_⟩) hH ?_
          · go_simp
          try simp only [Act.put, List.setIfInBounds_toArray, List.set_cons_zero, List.set_cons_succ]
          refine wpAnyH_takeTo (i := 3) (d := some 44) (v := .int .i64 K) rfl rfl (by kernel_rfl) (by kernel_rfl) (by kernel_rfl) (fun _ _ _ h => h) (Or.inl ⟨by rfl, fun x hx => ?_⟩) hH ?_
          · go_simp
          try simp only [Act.put, List.setIfInBounds_toArray, List.set_cons_zero, List.set_cons_succ]
          refine wpAnyH_takeTo (i := 7) (d := some 48) (v := .int .i64 L) rfl rfl (by kernel_rfl) (by kernel_rfl) (by kernel_rfl) (fun _ _ _ h => h) (Or.inl ⟨by rfl, fun x hx => ?_⟩) hH ?_
          · go_simp
          try simp only [Act.put, List.setIfInBounds_toArray, List.set_cons_zero, List.set_cons_succ]
          refine wpAnyH_takeTo (i := 8) (d := some 49) (v := .int .i64 dd) rfl rfl (by kernel_rfl) (by kernel_rfl) (by kernel_rfl) (fun _ _ _ h => h) (Or.inl ⟨by rfl, fun x hx => ?_⟩) hH ?_
          · go_simp
          try simp only [Act.put, List.setIfInBounds_toArray, List.set_cons_zero, List.set_cons_succ]
          refine wpAnyH_takeTo (i := 13) (d := some 54) (v := .int .i64 ((k + 1 : Nat) : Int)) rfl rfl (by kernel_rfl) (by kernel_rfl) (by kernel_rfl) (fun _ _ _ h => h) (Or.inl ⟨by rfl, fun x hx => ?_⟩) hH ?_
          · go_simp
          try simp only [Act.put, List.setIfInBounds_toArray, List.set_cons_zero, List.set_cons_succ]
          refine wpAnyH_takeTo (i := 14) (d := some 55) (v := .int .i64 k) rfl rfl (by kernel_rfl) (by kernel_rfl) (by kernel_rfl) (fun _ _ _ h => h) (Or.inl ⟨by rfl, fun x hx => ?_⟩) hH ?_
          · go_simp
          try simp only [Act.put, List.setIfInBounds_toArray, List.set_cons_zero, List.set_cons_succ]
          refine wpAnyH_takeTo (i := 19) (d := some 60) (v := .int .i64 Y) rfl rfl (by kernel_rfl) (by kernel_rfl) (by kernel_rfl) (fun _ _ _ h => h) (Or.inl ⟨by rfl, fun x hx => ?_⟩) hH ?_
          · go_simp
          try simp only [Act.put, List.setIfInBounds_toArray, List.set_cons_zero, List.set_cons_succ]
          refine wpAnyH_takeTo (i := 20) (d := some 61) (v := .int .i64 y1) rfl rfl (by kernel_rfl) (by kernel_rfl) (by kernel_rfl) (fun _ _ _ h => h) (Or.inl ⟨by rfl, fun x hx => ?_⟩) hH ?_
          · go_simp
          try simp only [Act.put, List.setIfInBounds_toArray, List.set_cons_zero, List.set_cons_succ]
          refine wpAnyH_takeTo (i := 23) (d := some 64) (v := .int .i64 Y) rfl rfl (by kernel_rfl) (by kernel_rfl) (by kernel_rfl) (fun _ _ _ h => h) (Or.inl ⟨by rfl, fun x hx => ?_⟩) hH ?_
          · go_simp
          try simp only [Act.put, List.setIfInBounds_toArray, List.set_cons_zero, List.set_cons_succ]
          refine wpAnyH_takeTo (i := 24) (d := some 65) (v := .int .i64 y2) rfl rfl (by kernel_rfl) (by kernel_rfl) (by kernel_rfl) (fun _ _ _ h => h) (Or.inl ⟨by rfl, fun x hx => ?_⟩) hH ?_
          · go_simp
          try simp only [Act.put, List.setIfInBounds_toArray, List.set_cons_zero, List.set_cons_succ]
          refine wpAnyH_takeTo (i := 28) (d := some 69) (v := .int .i64 s) rfl rfl (by kernel_rfl) (by kernel_rfl) (by kernel_rfl) (fun _ _ _ h => h) (Or.inl ⟨by rfl, fun x hx => ?_⟩) hH ?_
          · go_simp
          try simp only [Act.put, List.setIfInBounds_toArray, List.set_cons_zero, List.set_cons_succ]
          refine wpAnyH_takeTo (i := 29) (d := some 70) (v := .int .i64 hh) rfl rfl (by kernel_rfl) (by kernel_rfl) (by kernel_rfl) (fun _ _ _ h => h) (Or.inl ⟨by rfl, fun x hx => ?_⟩) hH ?_
          · go_simp
          try simp only [Act.put, List.setIfInBounds_toArray, List.set_cons_zero, List.set_cons_succ]
          refine wpAnyH_takeTo (i := 33) (d := some 74) (v := .int .i64 s) rfl rfl (by kernel_rfl) (by kernel_rfl) (by kernel_rfl) (fun _ _ _ h => h) (Or.inl ⟨by rfl, fun x hx => ?_⟩) hH ?_
          · go_simp
          try simp only [Act.put, List.setIfInBounds_toArray, List.set_cons_zero, List.set_cons_succ]
          refine wpAnyH_takeTo (i := 34) (d := some 75) (v := .int .i64 ((s : Int) / 60)) rfl rfl (by kernel_rfl) (by kernel_rfl) (by kernel_rfl) (fun _ _ _ h => h) (Or.inl ⟨by rfl, fun x hx => ?_⟩) hH ?_
          · go_simp
          try simp only [Act.put, List.setIfInBounds_toArray, List.set_cons_zero, List.set_cons_succ]
          refine wpAnyH_takeTo (i := 35) (d := some 76) (v := .int .i64 mi) rfl rfl (by kernel_rfl) (by kernel_rfl) (by kernel_rfl) (fun _ _ _ h => h) (Or.inl ⟨by rfl, fun x hx => ?_⟩) hH ?_
          · go_simp
          try simp only [Act.put, List.setIfInBounds_toArray, List.set_cons_zero, List.set_cons_succ]
          refine wpAnyH_takeTo (i := 39) (d := some 80) (v := .int .i64 s) rfl rfl (by kernel_rfl) (by kernel_rfl) (by kernel_rfl) (fun _ _ _ h => h) (Or.inl ⟨by rfl, fun x hx => ?_⟩) hH ?_
          · go_simp
          try simp only [Act.put, List.setIfInBounds_toArray, List.set_cons_zero, List.set_cons_succ]
          refine wpAnyH_takeTo (i := 40) (d := some 81) (v := .int .i64 se) rfl rfl (by kernel_rfl) (by kernel_rfl) (by kernel_rfl) (fun _ _ _ h => h) (Or.inl ⟨by rfl, fun x hx => ?_⟩) hH ?_
          · go_simp
          try simp only [Act.put, List.setIfInBounds_toArray, List.set_cons_zero, List.set_cons_succ]
          refine wpAnyH_stepTo (i := 0) (d := some 41) (by kernel_rfl) rfl rfl (by rfl) (fun u x => u = .slice (some ⟨w2.heap.size, 0, none⟩) 7 7 ∧ Hid (RowAt x w2.heap.size day3L ∧ Below w2.heap.size w2 x)) (fun K' hK' => ?_) ?_
          · go_simp
            go_at_call 49
            refine Calls.mono (days_row _) ?_
            rintro e x1 ⟨rfl, hx1⟩
            exact hK' _ _ ⟨rfl, Lib.hid ⟨hx1.out.1, Below.trans ((Below.refl _ _).drew) hx1.out.2⟩⟩
          rintro _ x1 ⟨rfl, hx1⟩
          refine ⟨trivial, ?_⟩
          have hD1 := RD.out x1 w2.heap.size hx1.out.1
          have HX1 := Lib.hid (HB2.out.trans (hx1.out.2.mono HB2.out.size))
          have HL1 : Hid (w2.heap.size < x1.heap.size) := Lib.hid (Array.getElem?_eq_some_iff.1 hx1.out.1).1
          clear hH hx1
          try simp only [Act.put, List.setIfInBounds_toArray, List.set_cons_zero, List.set_cons_succ]
          refine wpAnyH_more (S' := fun x => x.cell? ⟨w2.heap.size, K, none⟩ = some (.string D)) (fun _ _ => trivial) _ _ _ _ ?_
          have hH := hD1
          clear hD1
          refine wpAnyH_takeTo (i := 4) (d := some 45) (v := .pointer (some ⟨w2.heap.size, K, none⟩)) rfl rfl (by kernel_rfl) (by kernel_rfl) (by kernel_rfl) (fun _ _ _ h => h) (Or.inl ⟨by rfl, fun x hx => ?_⟩) hH ?_
          · go_simp
          try simp only [Act.put, List.setIfInBounds_toArray, List.set_cons_zero, List.set_cons_succ]
          refine wpAnyH_takeTo (i := 5) (d := some 46) (v := .string D) rfl rfl (by kernel_rfl) (by kernel_rfl) (by kernel_rfl) (fun _ _ _ h => h) (Or.inl ⟨by rfl, fun x hx => ?_⟩) hH ?_
          · go_simp
          try simp only [Act.put, List.setIfInBounds_toArray, List.set_cons_zero, List.set_cons_succ]
          refine wpAnyH_takeTo (i := 6) (d := some 47) (v := .string A1) rfl rfl (by kernel_rfl) (by kernel_rfl) (by kernel_rfl) (fun _ _ _ h => h) (Or.inl ⟨by rfl, fun x hx => ?_⟩) hH ?_
          · go_simp
          try simp only [Act.put, List.setIfInBounds_toArray, List.set_cons_zero, List.set_cons_succ]
          refine wpAnyH_stepTo (i := 9) (d := some 50) (by kernel_rfl) rfl rfl (by rfl) (fun u x => u = .string T1 ∧ ∃ q, x = x1.drewN q) (fun K' hK' => ?_) ?_
          · go_simp
            go_at_call 50
            refine Calls.mono (C1.out _) ?_
            rintro e y ⟨rfl, hy⟩
            exact hK' _ _ ⟨rfl, hy⟩
          rintro _ x2 ⟨rfl, q, hq⟩
          have HX2 : Hid (Below w.heap.size w x2) := Lib.hid (by rw [hq]; exact HX1.out.trans ⟨rfl, rfl, rfl, Nat.le_refl _, fun _ _ => rfl⟩)
          have hH1 : x2.cell? ⟨w2.heap.size, K, none⟩ = some (.string D) := by rw [hq]; exact hH
          refine ⟨hH1, ?_⟩
          clear hH hq
          have hH := hH1
          clear hH1
          try simp only [Act.put, List.setIfInBounds_toArray, List.set_cons_zero, List.set_cons_succ]
          refine wpAnyH_takeTo (i := 10) (d := some 51) (v := .string A2) rfl rfl (by kernel_rfl) (by kernel_rfl) (by kernel_rfl) (fun _ _ _ h => h) (Or.inl ⟨by rfl, fun x hx => ?_⟩) hH ?_
          · go_simp
          try simp only [Act.put, List.setIfInBounds_toArray, List.set_cons_zero, List.set_cons_succ]
          refine wpAnyH_takeTo (i := 11) (d := some 52) (v := .string A3) rfl rfl (by kernel_rfl) (by kernel_rfl) (by kernel_rfl) (fun _ _ _ h => h) (Or.inl ⟨by rfl, fun x hx => ?_⟩) hH ?_
          · go_simp
          try simp only [Act.put, List.setIfInBounds_toArray, List.set_cons_zero, List.set_cons_succ]
          refine wpAnyH_stepTo (i := 12) (d := some 53) (by kernel_rfl) rfl rfl (by rfl) (fun u x => u = .slice (some ⟨x2.heap.size, 0, none⟩) 12 12 ∧ Hid (RowAt x x2.heap.size monL ∧ Below x2.heap.size x2 x)) (fun K' hK' => ?_) ?_
          · go_simp
            go_at_call 51
            refine Calls.mono (months_row _) ?_
            rintro e y ⟨rfl, hy⟩
            exact hK' _ _ ⟨rfl, hy⟩
          rintro _ x3 ⟨rfl, hx3⟩
          obtain ⟨gm, hgm⟩ : ∃ g, x2.heap.size = g := ⟨_, rfl⟩
          have hO3 := RO.out x3 x2.heap.size hx3.out.1
          have hD3 : x3.cell? ⟨w2.heap.size, K, none⟩ = some (.string D) := (hx3.out.2.cell (p := ⟨w2.heap.size, K, none⟩) (by show w2.heap.size < x2.heap.size; exact block_of hH)).trans hH
          have HX3 := Lib.hid (HX2.out.trans (hx3.out.2.mono HX2.out.size))
          rw [hgm] at hO3 ⊢
          refine ⟨hD3, ?_⟩
          clear hH hx3 hgm
          try simp only [Act.put, List.setIfInBounds_toArray, List.set_cons_zero, List.set_cons_succ]
          refine wpAnyH_more (S' := fun x => x.cell? ⟨w2.heap.size, K, none⟩ = some (.string D) ∧ x.cell? ⟨gm, k, none⟩ = some (.string O)) (fun _ h => h.1) _ _ _ _ ?_
          have hH := And.intro hD3 hO3
          clear hD3 hO3
          refine wpAnyH_takeTo (i := 15) (d := some 56) (v := .pointer (some ⟨gm, k, none⟩)) rfl rfl (by kernel_rfl) (by kernel_rfl) (by kernel_rfl) (fun _ _ _ h => h) (Or.inl ⟨by rfl, fun x hx => ?_⟩) hH ?_
          · obtain ⟨f1a, f2a⟩ := hx; go_simp
          try simp only [Act.put, List.setIfInBounds_toArray, List.set_cons_zero, List.set_cons_succ]
          refine wpAnyH_takeTo (i := 16) (d := some 57) (v := .string O) rfl rfl (by kernel_rfl) (by kernel_rfl) (by kernel_rfl) (fun _ _ _ h => h) (Or.inl ⟨by rfl, fun x hx => ?_⟩) hH ?_
          · obtain ⟨f1a, f2a⟩ := hx; go_simp
          try simp only [Act.put, List.setIfInBounds_toArray, List.set_cons_zero, List.set_cons_succ]
          refine wpAnyH_takeTo (i := 17) (d := some 58) (v := .string A4) rfl rfl (by kernel_rfl) (by kernel_rfl) (by kernel_rfl) (fun _ _ _ h => h) (Or.inl ⟨by rfl, fun x hx => ?_⟩) hH ?_
          · obtain ⟨f1a, f2a⟩ := hx; go_simp
          try simp only [Act.put, List.setIfInBounds_toArray, List.set_cons_zero, List.set_cons_succ]
          refine wpAnyH_takeTo (i := 18) (d := some 59) (v := .string A5) rfl rfl (by kernel_rfl) (by kernel_rfl) (by kernel_rfl) (fun _ _ _ h => h) (Or.inl ⟨by rfl, fun x hx => ?_⟩) hH ?_
          · obtain ⟨f1a, f2a⟩ := hx; go_simp
          try simp only [Act.put, List.setIfInBounds_toArray, List.set_cons_zero, List.set_cons_succ]
          refine wpAnyH_stepTo (i := 21) (d := some 62) (by kernel_rfl) rfl rfl (by rfl) (fun u x => u = .string T2 ∧ ∃ q, x = x3.drewN q) (fun K' hK' => ?_) ?_
          · go_simp
            go_at_call 50
            refine Calls.mono (C2.out _) ?_
            rintro e y ⟨rfl, hy⟩
            exact hK' _ _ ⟨rfl, hy⟩
          rintro _ x4 ⟨rfl, q, hq⟩
          have HX4 : Hid (Below w.heap.size w x4) := Lib.hid (by rw [hq]; exact HX3.out.trans ⟨rfl, rfl, rfl, Nat.le_refl _, fun _ _ => rfl⟩)
          have hH1 : x4.cell? ⟨w2.heap.size, K, none⟩ = some (.string D) ∧ x4.cell? ⟨gm, k, none⟩ = some (.string O) := by rw [hq]; exact hH
          refine ⟨hH1, ?_⟩
          clear hH hq
          have hH := hH1
          clear hH1
          try simp only [Act.put, List.setIfInBounds_toArray, List.set_cons_zero, List.set_cons_succ]
          refine wpAnyH_takeTo (i := 22) (d := some 63) (v := .string A6) rfl rfl (by kernel_rfl) (by kernel_rfl) (by kernel_rfl) (fun _ _ _ h => h) (Or.inl ⟨by rfl, fun x hx => ?_⟩) hH ?_
          · obtain ⟨f1a, f2a⟩ := hx; go_simp
          try simp only [Act.put, List.setIfInBounds_toArray, List.set_cons_zero, List.set_cons_succ]
          refine wpAnyH_stepTo (i := 25) (d := some 66) (by kernel_rfl) rfl rfl (by rfl) (fun u x => u = .string T3 ∧ ∃ q, x = x4.drewN q) (fun K' hK' => ?_) ?_
          · go_simp
            go_at_call 50
            refine Calls.mono (C3.out _) ?_
            rintro e y ⟨rfl, hy⟩
            exact hK' _ _ ⟨rfl, hy⟩
          rintro _ x5 ⟨rfl, q, hq⟩
          have HX5 : Hid (Below w.heap.size w x5) := Lib.hid (by rw [hq]; exact HX4.out.trans ⟨rfl, rfl, rfl, Nat.le_refl _, fun _ _ => rfl⟩)
          have hH1 : x5.cell? ⟨w2.heap.size, K, none⟩ = some (.string D) ∧ x5.cell? ⟨gm, k, none⟩ = some (.string O) := by rw [hq]; exact hH
          refine ⟨hH1, ?_⟩
          clear hH hq
          have hH := hH1
          clear hH1
          try simp only [Act.put, List.setIfInBounds_toArray, List.set_cons_zero, List.set_cons_succ]
          refine wpAnyH_takeTo (i := 26) (d := some 67) (v := .string A7) rfl rfl (by kernel_rfl) (by kernel_rfl) (by kernel_rfl) (fun _ _ _ h => h) (Or.inl ⟨by rfl, fun x hx => ?_⟩) hH ?_
          · obtain ⟨f1a, f2a⟩ := hx; go_simp
          try simp only [Act.put, List.setIfInBounds_toArray, List.set_cons_zero, List.set_cons_succ]
          refine wpAnyH_takeTo (i := 27) (d := some 68) (v := .string A8) rfl rfl (by kernel_rfl) (by kernel_rfl) (by kernel_rfl) (fun _ _ _ h => h) (Or.inl ⟨by rfl, fun x hx => ?_⟩) hH ?_
          · obtain ⟨f1a, f2a⟩ := hx; go_simp
          try simp only [Act.put, List.setIfInBounds_toArray, List.set_cons_zero, List.set_cons_succ]
          refine wpAnyH_stepTo (i := 30) (d := some 71) (by kernel_rfl) rfl rfl (by rfl) (fun u x => u = .string T4 ∧ ∃ q, x = x5.drewN q) (fun K' hK' => ?_) ?_
          · go_simp
            go_at_call 50
            refine Calls.mono (C4.out _) ?_
            rintro e y ⟨rfl, hy⟩
            exact hK' _ _ ⟨rfl, hy⟩
          rintro _ x6 ⟨rfl, q, hq⟩
          have HX6 : Hid (Below w.heap.size w x6) := Lib.hid (by rw [hq]; exact HX5.out.trans ⟨rfl, rfl, rfl, Nat.le_refl _, fun _ _ => rfl⟩)
          have hH1 : x6.cell? ⟨w2.heap.size, K, none⟩ = some (.string D) ∧ x6.cell? ⟨gm, k, none⟩ = some (.string O) := by rw [hq]; exact hH
          refine ⟨hH1, ?_⟩
          clear hH hq
          have hH := hH1
          clear hH1
          try simp only [Act.put, List.setIfInBounds_toArray, List.set_cons_zero, List.set_cons_succ]
          refine wpAnyH_takeTo (i := 31) (d := some 72) (v := .string A9) rfl rfl (by kernel_rfl) (by kernel_rfl) (by kernel_rfl) (fun _ _ _ h => h) (Or.inl ⟨by rfl, fun x hx => ?_⟩) hH ?_
          · obtain ⟨f1a, f2a⟩ := hx; go_simp
          try simp only [Act.put, List.setIfInBounds_toArray, List.set_cons_zero, List.set_cons_succ]
          refine wpAnyH_takeTo (i := 32) (d := some 73) (v := .string A10) rfl rfl (by kernel_rfl) (by kernel_rfl) (by kernel_rfl) (fun _ _ _ h => h) (Or.inl ⟨by rfl, fun x hx => ?_⟩) hH ?_
          · obtain ⟨f1a, f2a⟩ := hx; go_simp
          try simp only [Act.put, List.setIfInBounds_toArray, List.set_cons_zero, List.set_cons_succ]
          refine wpAnyH_stepTo (i := 36) (d := some 77) (by kernel_rfl) rfl rfl (by rfl) (fun u x => u = .string T5 ∧ ∃ q, x = x6.drewN q) (fun K' hK' => ?_) ?_
          · go_simp
            go_at_call 50
            refine Calls.mono (C5.out _) ?_
            rintro e y ⟨rfl, hy⟩
            exact hK' _ _ ⟨rfl, hy⟩
          rintro _ x7 ⟨rfl, q, hq⟩
          have HX7 : Hid (Below w.heap.size w x7) := Lib.hid (by rw [hq]; exact HX6.out.trans ⟨rfl, rfl, rfl, Nat.le_refl _, fun _ _ => rfl⟩)
          have hH1 : x7.cell? ⟨w2.heap.size, K, none⟩ = some (.string D) ∧ x7.cell? ⟨gm, k, none⟩ = some (.string O) := by rw [hq]; exact hH
          refine ⟨hH1, ?_⟩
          clear hH hq
          have hH := hH1
          clear hH1
          try simp only [Act.put, List.setIfInBounds_toArray, List.set_cons_zero, List.set_cons_succ]
          refine wpAnyH_takeTo (i := 37) (d := some 78) (v := .string A11) rfl rfl (by kernel_rfl) (by kernel_rfl) (by kernel_rfl) (fun _ _ _ h => h) (Or.inl ⟨by rfl, fun x hx => ?_⟩) hH ?_
          · obtain ⟨f1a, f2a⟩ := hx; go_simp
          try simp only [Act.put, List.setIfInBounds_toArray, List.set_cons_zero, List.set_cons_succ]
          refine wpAnyH_takeTo (i := 38) (d := some 79) (v := .string A12) rfl rfl (by kernel_rfl) (by kernel_rfl) (by kernel_rfl) (fun _ _ _ h => h) (Or.inl ⟨by rfl, fun x hx => ?_⟩) hH ?_
          · obtain ⟨f1a, f2a⟩ := hx; go_simp
          try simp only [Act.put, List.setIfInBounds_toArray, List.set_cons_zero, List.set_cons_succ]
          refine wpAnyH_stepTo (i := 41) (d := some 82) (by kernel_rfl) rfl rfl (by rfl) (fun u x => u = .string T6 ∧ ∃ q, x = x7.drewN q) (fun K' hK' => ?_) ?_
          · go_simp
            go_at_call 50
            refine Calls.mono (C6.out _) ?_
            rintro e y ⟨rfl, hy⟩
            exact hK' _ _ ⟨rfl, hy⟩
          rintro _ x8 ⟨rfl, q, hq⟩
          have HX8 : Hid (Below w.heap.size w x8) := Lib.hid (by rw [hq]; exact HX7.out.trans ⟨rfl, rfl, rfl, Nat.le_refl _, fun _ _ => rfl⟩)
          have hH1 : x8.cell? ⟨w2.heap.size, K, none⟩ = some (.string D) ∧ x8.cell? ⟨gm, k, none⟩ = some (.string O) := by rw [hq]; exact hH
          refine ⟨hH1, ?_⟩
          clear hH hq
          have hH := hH1
          clear hH1
          try simp only [Act.put, List.setIfInBounds_toArray, List.set_cons_zero, List.set_cons_succ]
          refine wpAnyH_takeTo (i := 42) (d := some 83) (v := .string A13) rfl rfl (by kernel_rfl) (by kernel_rfl) (by kernel_rfl) (fun _ _ _ h => h) (Or.inl ⟨by rfl, fun x hx => ?_⟩) hH ?_
          · obtain ⟨f1a, f2a⟩ := hx; go_simp
          try simp only [Act.put, List.setIfInBounds_toArray, List.set_cons_zero, List.set_cons_succ]
          refine wpAnyH_takeTo (i := 43) (d := some 84) (v := .string A14) rfl rfl (by kernel_rfl) (by kernel_rfl) (by kernel_rfl) (fun _ _ _ h => h) (Or.inl ⟨by rfl, fun x hx => ?_⟩) hH ?_
          · obtain ⟨f1a, f2a⟩ := hx; go_simp
          try simp only [Act.put, List.setIfInBounds_toArray, List.set_cons_zero, List.set_cons_succ]
          refine wpAnyH_takeTo (i := 44) (d := some 2) (v := .string A14) rfl rfl (by kernel_rfl) (by kernel_rfl) (by kernel_rfl) (fun _ _ _ h => h) (Or.inl ⟨by rfl, fun x hx => ?_⟩) hH ?_
          · obtain ⟨f1a, f2a⟩ := hx; go_simp
          try simp only [Act.put, List.setIfInBounds_toArray, List.set_cons_zero, List.set_cons_succ]
          refine wpAnyH_done (by kernel_rfl) ?_ _
          go_wp2
          go_ret
          exact ⟨by rw [HE.out]; rfl, HX8.out⟩
end Go.Proofs.YtkbcklaloblmeaaGreatDoor
