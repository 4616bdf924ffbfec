/-
  DateDays.
-/
import Derived.Test.YtfnpncmdeimcbaaDoorDateLawReads
import Derived.Test.YtfnpncmdeimcbaaDoorDateFormsMath
import Derived.Test.YtfnpncmdeimcbaaDoorDateRefText
namespace Go.Proofs.YtfnpncmdeimcbaaDoor
open Go.RowKit DateMath

def orderB : ByteArray := ⟨#[83, 117, 110, 77, 111, 110, 84, 117, 101, 87, 101, 100, 84, 104, 117, 70, 114, 105, 83, 97, 116, 83, 117, 110]⟩
def monthB : ByteArray := ⟨#[74, 97, 110, 70, 101, 98, 77, 97, 114, 65, 112, 114, 77, 97, 121, 74, 117, 110, 74, 117, 108, 65, 117, 103, 83, 101, 112, 79, 99, 116, 78, 111, 118, 68, 101, 99]⟩
theorem order_at : ∀ j : Nat, j ≤ 7 → orderB.extract (3 * j) (3 * j + 3) = arrD (day3L.getD (j % 7) []) := by
  intro j hj
  match j, hj with
  | 0, _ | 1, _ | 2, _ | 3, _ | 4, _ | 5, _ | 6, _ | 7, _ => exact ByteArray.ext (by decide +kernel)
theorem month_at : ∀ j : Nat, j ≤ 11 → ∃ x : ByteArray, monthB.extract (3 * j) (3 * j + 3) = x ∧ x.size = 3 := by
  intro j hj
  match j, hj with
  | 0, _ | 1, _ | 2, _ | 3, _ | 4, _ | 5, _ | 6, _ | 7, _ | 8, _ | 9, _ | 10, _ | 11, _ => exact ⟨_, rfl, by decide +kernel⟩
theorem dig4_at : ∀ j : Nat, j ≤ 3 → ∃ x : ByteArray, (⟨#[48, 49, 50, 51]⟩ : ByteArray).extract j (j + 1) = x ∧ x.size = 1 := by
  intro j hj
  match j, hj with
  | 0, _ | 1, _ | 2, _ | 3, _ => exact ⟨_, rfl, by decide +kernel⟩
theorem dig10_at : ∀ j : Nat, j ≤ 9 → ∃ x : ByteArray, (⟨#[48, 49, 50, 51, 52, 53, 54, 55, 56, 57]⟩ : ByteArray).extract j (j + 1) = x ∧ x.size = 1 := by
  intro j hj
  match j, hj with
  | 0, _ | 1, _ | 2, _ | 3, _ | 4, _ | 5, _ | 6, _ | 7, _ | 8, _ | 9, _ => exact ⟨_, rfl, by decide +kernel⟩
theorem day3_ne {a b : Nat} (ha : a ≤ 6) (hb : b ≤ 6) : ((arrD (day3L.getD a [])).toList == (arrD (day3L.getD b [])).toList) = (a == b) := by
  match a, ha, b, hb with
  | 0, _, 0, _ | 0, _, 1, _ | 0, _, 2, _ | 0, _, 3, _ | 0, _, 4, _ | 0, _, 5, _ | 0, _, 6, _
  | 1, _, 0, _ | 1, _, 1, _ | 1, _, 2, _ | 1, _, 3, _ | 1, _, 4, _ | 1, _, 5, _ | 1, _, 6, _
  | 2, _, 0, _ | 2, _, 1, _ | 2, _, 2, _ | 2, _, 3, _ | 2, _, 4, _ | 2, _, 5, _ | 2, _, 6, _
  | 3, _, 0, _ | 3, _, 1, _ | 3, _, 2, _ | 3, _, 3, _ | 3, _, 4, _ | 3, _, 5, _ | 3, _, 6, _
  | 4, _, 0, _ | 4, _, 1, _ | 4, _, 2, _ | 4, _, 3, _ | 4, _, 4, _ | 4, _, 5, _ | 4, _, 6, _
  | 5, _, 0, _ | 5, _, 1, _ | 5, _, 2, _ | 5, _, 3, _ | 5, _, 4, _ | 5, _, 5, _ | 5, _, 6, _
  | 6, _, 0, _ | 6, _, 1, _ | 6, _, 2, _ | 6, _, 3, _ | 6, _, 4, _ | 6, _, 5, _ | 6, _, 6, _ => decide +kernel
theorem arr_ext (l : Bs) (a b : Nat) : (arrD l).extract a b = arrD (sl l a b) := ByteArray.ext (by
  unfold arrD
  rw [← Array.toList_inj]
  simp [sl])
/-- What the next day's text has of this one's. -/
theorem next_day {T : Nat} (hT : T + 86400 ≤ maxT) : clockT (momOf (T + 86400)) = clockT (momOf T) ∧ (momOf (T + 86400)).wd = ((momOf T).wd + 1) % 7 := by
  unfold clockT momOf
  have e1 : (T + 86400) % 86400 = T % 86400 := by omega
  have e2 : (T + 86400) / 86400 = T / 86400 + 1 := by omega
  simp only [e1, e2]
  exact ⟨trivial, by omega⟩
set_option maxRecDepth 100000 in
set_option maxHeartbeats 16000000 in
theorem daysD_any (t : Int) (dn mn : Nat) (w : World) (h1 : TabP w) (h2 : TabS w) (hlo : -9223372036854775808 ≤ t) (hhi : t ≤ 9223372036854775807) (hdn : dn < 256) (hmn : mn < 256) : Calls Tryd.prog 6 #[.int .i64 t, .int .u8 dn, .int .u8 mn] w (YesD w) := by
  have CK := Lib.hid (knownD_any w h1 h2)
  obtain ⟨p, hp⟩ : ∃ p : Nat, (if t < 0 then -(t + 1) else t) = (p : Int) := ⟨(if t < 0 then -(t + 1) else t).toNat, by split <;> omega⟩
  obtain ⟨T, hT⟩ : ∃ T, p % 253393660799 = T := ⟨_, rfl⟩
  have hTm : T + 86400 ≤ maxT := by unfold maxT; omega
  have hTI : (p : Int) % 253393660799 = (T : Int) := by omega
  have hTI2 : (p : Int).tmod 253393660799 = (T : Int) := by rw [Int.tmod_eq_emod_of_nonneg (by omega)]; omega
  have hTb : (T : Int) ≤ 253393660798 := by omega
  have oA := mom_ok T (by omega)
  have oB := mom_ok (T + 86400) hTm
  have cta := textD_at h1 h2 (T : Int)
  have ctb := textD_at h1 h2 ((T : Int) + 86400)
  rw [show clampN (T : Int) = T by unfold clampN; unfold maxT at hTm; omega] at cta
  rw [show clampN ((T : Int) + 86400) = T + 86400 by unfold clampN; unfold maxT at hTm; omega] at ctb
  obtain ⟨nc, nw⟩ := next_day hTm
  have pA := plain_parts oA
  have pB := plain_parts oB
  obtain ⟨A, hA⟩ : ∃ A, arrD (plainT (momOf T)) = A := ⟨_, rfl⟩
  obtain ⟨B, hB⟩ : ∃ B, arrD (plainT (momOf (T + 86400))) = B := ⟨_, rfl⟩
  have zA : A.size = 29 := by rw [← hA, arrD_size, plain_len oA]
  have zB : B.size = 29 := by rw [← hB, arrD_size, plain_len oB]
  obtain ⟨E, hE⟩ : ∃ E, A.extract 17 29 = E := ⟨_, rfl⟩
  have hE2 : B.extract 17 29 = E := by rw [← hE, ← hA, ← hB, arr_ext, arr_ext, pA.2.2.2.2.2.2, pB.2.2.2.2.2.2, nc]
  obtain ⟨W, hW⟩ : ∃ W, (momOf T).wd = W := ⟨_, rfl⟩
  have hW6 : W ≤ 6 := by rw [← hW]; exact oA.wd
  rw [hW] at nw
  obtain ⟨DA, hDA⟩ : ∃ D, arrD (day3L.getD W []) = D := ⟨_, rfl⟩
  obtain ⟨DB, hDB⟩ : ∃ D, arrD (day3L.getD ((W + 1) % 7) []) = D := ⟨_, rfl⟩
  have xA : A.extract 0 3 = DA := by rw [← hA, arr_ext, pA.2.2.2.2.2.1, ← day3_map, hW, hDA]
  have xB : B.extract 0 3 = DB := by rw [← hB, arr_ext, pB.2.2.2.2.2.1, ← day3_map, nw, hDB]
  rw [hA] at cta
  rw [hB] at ctb
  have CTA := Lib.hid cta
  have CTB := Lib.hid ctb
  have HP := Lib.hid hp
  have HTM := Lib.hid hTm
  have HDA := Lib.hid hDA
  have HDB := Lib.hid hDB
  have HW6 := Lib.hid hW6
  have CPA := Lib.hid (fun (s : ByteArray) (hs : s.size ≤ 100) => parseD_at h1 h2 s (by omega))
  have CRA := Lib.hid (fun (s : ByteArray) (hs : s.size ≤ 100) x hx => refParseD_at (w := w) s (by omega) x hx)
  have hEE : (E.toList == E.toList) = true := beq_self_eq_true _
  have hE3 : A.extract 17 A.size = E := by rw [zA, hE]
  have hE4 : B.extract 17 B.size = E := by rw [zB, hE2]
  clear cta ctb hA hB hp hT hTm oA oB nc nw pA pB hW hDA hDB h1 h2 hW6
  unfold YesD
  have pneg : 0 ≤ (p : Int) := by omega
  by_cases hneg : t < 0
  · have hq : -(t + 1) = (p : Int) := by have := HP.out; rw [if_pos hneg] at this; exact this
    go_enter Tryd.func6, Tryd.ntmps6
    go_wp2_with fail
    refine CK.out.mono ?_
    rintro e w1 ⟨rfl, hb1⟩
    have HB1 := Lib.hid hb1
    clear hb1
    go_wp2_with fail
    refine (CTA.out w1 HB1.out).mono ?_
    rintro e w2 ⟨rfl, hb2⟩
    have HB2 := Lib.hid hb2
    clear hb2
    go_wp2_with fail
    refine (CTB.out w2 HB2.out).mono ?_
    rintro e w3 ⟨rfl, hb3⟩
    have HB3 := Lib.hid hb3
    clear hb3
    go_wp2_with fail
    go_quiet (fail)
    obtain ⟨w4, hw4⟩ : ∃ w4, w3.drewN nq = w4 := ⟨_, rfl⟩
    rw [hw4]
    have HB4 : Hid (Below w.heap.size w w4) := Lib.hid (by rw [← hw4]; exact HB3.out.trans ⟨rfl, rfl, rfl, Nat.le_refl _, fun _ _ => rfl⟩)
    clear hw4 hE hE2 hE3 hE4 hEE
    go_wp2_with fail
    go_loopw [10] (fun at_ wr => ∃ j : Nat, j ≤ W ∧ at_ = .int .i64 ((3 * j : Nat) : Int) ∧ Hid (Below w.heap.size w wr)) (fun at_ _ => 30 - (intOf at_).toNat)
    case atStart => exact ⟨0, Nat.zero_le _, rfl, HB4⟩
    case round =>
      obtain ⟨j, hj, rfl, HB⟩ := hrel
      have hj6 : j ≤ 6 := by have := HW6.out; omega
      have HJ := Lib.hid hj
      obtain ⟨k, hk⟩ : ∃ k, 3 * j = k := ⟨_, rfl⟩
      have o1 := order_at j (by omega)
      have o2 := order_at (j + 1) (by omega)
      rw [show 3 * (j + 1) = 3 * j + 3 by omega, show 3 * j + 3 + 3 = 3 * j + 6 by omega] at o2
      rw [hk] at o1 o2 ⊢
      rw [show j % 7 = j by omega] at o1
      unfold orderB at o1 o2
      have k21 : (k : Int) < 21 := by omega
      have k18 : (k : Int) ≤ 18 := by omega
      have kN : k ≤ 18 := by omega
      have kd : decide ((k : Int) < 21) = true := decide_eq_true k21
      have kd2 : ((k : Int) == 21) = false := by simp; omega
      have kd3 : (k == 21) = false := by simp; omega
      have HK := Lib.hid hk
      by_cases hjw : j = W
      · have xO : (⟨#[83, 117, 110, 77, 111, 110, 84, 117, 101, 87, 101, 100, 84, 104, 117, 70, 114, 105, 83, 97, 116, 83, 117, 110]⟩ : ByteArray).extract k (k + 3) = DA := by rw [o1, hjw, HDA.out]
        have xO2 : (⟨#[83, 117, 110, 77, 111, 110, 84, 117, 101, 87, 101, 100, 84, 104, 117, 70, 114, 105, 83, 97, 116, 83, 117, 110]⟩ : ByteArray).extract (k + 3) (k + 6) = DB := by rw [o2, hjw, HDB.out]
        have cA : (DA.toList == DA.toList) = true := beq_self_eq_true _
        have cB : (DB.toList == DB.toList) = true := beq_self_eq_true _
        have tn3 : ((k : Int) + 3).toNat = k + 3 := by omega
        have tn6 : ((k : Int) + 6).toNat = k + 6 := by omega
        obtain ⟨d, hd⟩ : ∃ d, dn % 40 = d := ⟨_, rfl⟩
        obtain ⟨m, hm⟩ : ∃ m, mn % 12 = m := ⟨_, rfl⟩
        obtain ⟨a, ha⟩ : ∃ a, d / 10 = a := ⟨_, rfl⟩
        obtain ⟨b, hb⟩ : ∃ b, d % 10 = b := ⟨_, rfl⟩
        obtain ⟨c, hc⟩ : ∃ c, 3 * m = c := ⟨_, rfl⟩
        obtain ⟨P1, hP1, z1⟩ := dig4_at a (by omega)
        obtain ⟨P2, hP2, z2⟩ := dig10_at b (by omega)
        obtain ⟨P3, hP3, z3⟩ := month_at m (by omega)
        rw [hc] at hP3
        unfold monthB at hP3
        obtain ⟨P0, hP0⟩ : ∃ x, A.extract 0 5 = x := ⟨_, rfl⟩
        obtain ⟨P4, hP4⟩ : ∃ x, A.extract 11 29 = x := ⟨_, rfl⟩
        have z0 : P0.size = 5 := by rw [← hP0, ByteArray.size_extract, zA]; rfl
        have z4 : P4.size = 18 := by rw [← hP4, ByteArray.size_extract, zA]; rfl
        have hP4' : A.extract 11 A.size = P4 := by rw [zA, hP4]
        obtain ⟨Q1, hQ1⟩ : ∃ x, P0 ++ P1 = x := ⟨_, rfl⟩
        obtain ⟨Q2, hQ2⟩ : ∃ x, Q1 ++ P2 = x := ⟨_, rfl⟩
        obtain ⟨Q3, hQ3⟩ : ∃ x, Q2 ++ (⟨#[32]⟩ : ByteArray) = x := ⟨_, rfl⟩
        obtain ⟨Q4, hQ4⟩ : ∃ x, Q3 ++ P3 = x := ⟨_, rfl⟩
        obtain ⟨Q5, hQ5⟩ : ∃ x, Q4 ++ P4 = x := ⟨_, rfl⟩
        have y1 : Q1.size = 6 := by rw [← hQ1, ByteArray.size_append, z0, z1]
        have y2 : Q2.size = 7 := by rw [← hQ2, ByteArray.size_append, y1, z2]
        have y3 : Q3.size = 8 := by rw [← hQ3, ByteArray.size_append, y2]; rfl
        have y4 : Q4.size = 11 := by rw [← hQ4, ByteArray.size_append, y3, z3]
        have y5 : Q5.size = 29 := by rw [← hQ5, ByteArray.size_append, y4, z4]
        obtain ⟨r1, s1⟩ := add_str hQ1 (by omega)
        obtain ⟨r2, s2⟩ := add_str hQ2 (by omega)
        obtain ⟨r3, s3⟩ := add_str hQ3 (by rw [y2]; decide)
        obtain ⟨r4, s4⟩ := add_str hQ4 (by omega)
        obtain ⟨r5, s5⟩ := add_str hQ5 (by omega)
        have CP := Lib.hid (CPA.out Q5 (by omega))
        have CR := Lib.hid (CRA.out Q5 (by omega))
        obtain ⟨X, hX⟩ : ∃ X, (readF Q5.data.toList).1 = X := ⟨_, rfl⟩
        obtain ⟨Y, hY⟩ : ∃ Y, (readF Q5.data.toList).2 = Y := ⟨_, rfl⟩
        rw [hX, hY] at CP CR
        have eX : (X == X) = true := beq_self_eq_true _
        have eY : (Y == Y) = true := beq_self_eq_true _
        have fd : (dn : Int) % 40 = (d : Int) := by omega
        have fd2 : (dn : Int).tmod 40 = (d : Int) := by rw [Int.tmod_eq_emod_of_nonneg (by omega)]; omega
        have fm : (mn : Int) % 12 = (m : Int) := by omega
        have fm2 : (mn : Int).tmod 12 = (m : Int) := by rw [Int.tmod_eq_emod_of_nonneg (by omega)]; omega
        have fa : (d : Int) / 10 = (a : Int) := by omega
        have fb : (d : Int) % 10 = (b : Int) := by omega
        have fb2 : (d : Int).tmod 10 = (b : Int) := by rw [Int.tmod_eq_emod_of_nonneg (by omega)]; omega
        have fc : (3 : Int) * (m : Int) = (c : Int) := by omega
        have a3 : (a : Int) ≤ 3 := by omega
        have b9 : (b : Int) ≤ 9 := by omega
        have c33 : (c : Int) ≤ 33 := by omega
        have d39 : (d : Int) ≤ 39 := by omega
        have m11 : (m : Int) ≤ 11 := by omega
        have ta : ((a : Int) + 1).toNat = a + 1 := by omega
        have tb : ((b : Int) + 1).toNat = b + 1 := by omega
        have tc : ((c : Int) + 3).toNat = c + 3 := by omega
        have wk3 : IntKind.i64.wrap ((k : Int) + 3) = (k : Int) + 3 := wrap_k k 3 (by omega) (by decide)
        have wk6 : IntKind.i64.wrap ((k : Int) + 6) = (k : Int) + 6 := wrap_k k 6 (by omega) (by decide)
        have wd_ : IntKind.i64.wrap (d : Int) = (d : Int) := wrap_n d (by omega)
        have wm_ : IntKind.i64.wrap (m : Int) = (m : Int) := wrap_n m (by omega)
        have wa_ : IntKind.i64.wrap (a : Int) = (a : Int) := wrap_n a (by omega)
        have wc_ : IntKind.i64.wrap (c : Int) = (c : Int) := wrap_n c (by omega)
        have wa1 : IntKind.i64.wrap ((a : Int) + 1) = (a : Int) + 1 := wrap_k a 1 (by omega) (by decide)
        have wb1 : IntKind.i64.wrap ((b : Int) + 1) = (b : Int) + 1 := wrap_k b 1 (by omega) (by decide)
        have wc3 : IntKind.i64.wrap ((c : Int) + 3) = (c : Int) + 3 := wrap_k c 3 (by omega) (by decide)
        clear hjw hj hj6 o1 o2 hd hm ha hb hc hX hY hQ1 hQ2 hQ3 hQ4 hQ5 z0 z1 z2 z3 z4 y1 y2 y3 y4 y5 CPA CRA hdn hmn kN hk
        go_wp2_with fail
        go_quiet (fail)
        go_wp2_with fail
        go_quiet (fail)
        go_wp2_with fail
        go_quiet (fail)
        go_wp2_with fail
        refine (CP.out _ (by exact HB.out.trans ⟨rfl, rfl, rfl, Nat.le_refl _, fun _ _ => rfl⟩)).mono ?_
        rintro e w6 ⟨rfl, hb6⟩
        have HB6 := Lib.hid hb6
        clear hb6
        go_wp2_with fail
        refine (CR.out w6 HB6.out).mono ?_
        rintro e w7 ⟨rfl, hb7⟩
        have HB7 := Lib.hid hb7
        clear hb7
        go_wp2
        go_ret
        exact ⟨rfl, HB7.out⟩
      · have hlt : j + 1 ≤ W := by omega
        obtain ⟨DJ, hDJ⟩ : ∃ D, arrD (day3L.getD j []) = D := ⟨_, rfl⟩
        have xO : (⟨#[83, 117, 110, 77, 111, 110, 84, 117, 101, 87, 101, 100, 84, 104, 117, 70, 114, 105, 83, 97, 116, 83, 117, 110]⟩ : ByteArray).extract k (k + 3) = DJ := by rw [o1, hDJ]
        have cA : (DJ.toList == DA.toList) = false := by
          rw [← hDJ, ← HDA.out, day3_ne hj6 HW6.out]
          simpa using hjw
        have tn3 : ((k : Int) + 3).toNat = k + 3 := by omega
        have HLT := Lib.hid hlt
        have wk3 : IntKind.i64.wrap ((k : Int) + 3) = (k : Int) + 3 := wrap_k k 3 (by omega) (by decide)
        clear hjw hj hj6 o1 o2 hDJ kN hlt hk
        go_wp2_with fail
        go_quiet (fail)
        go_wp2_with fail
        go_roundw
        case rel => exact ⟨j + 1, HLT.out, by have := HK.out; congr 1; omega, Lib.hid (HB.out.trans ⟨rfl, rfl, rfl, Nat.le_refl _, fun _ _ => rfl⟩)⟩
        case measure => have := HK.out; simp [intOf]; omega
  · obtain rfl : t = (p : Int) := by have := HP.out; rw [if_neg hneg] at this; exact this
    go_enter Tryd.func6, Tryd.ntmps6
    go_wp2_with fail
    refine CK.out.mono ?_
    rintro e w1 ⟨rfl, hb1⟩
    have HB1 := Lib.hid hb1
    clear hb1
    go_wp2_with fail
    refine (CTA.out w1 HB1.out).mono ?_
    rintro e w2 ⟨rfl, hb2⟩
    have HB2 := Lib.hid hb2
    clear hb2
    go_wp2_with fail
    refine (CTB.out w2 HB2.out).mono ?_
    rintro e w3 ⟨rfl, hb3⟩
    have HB3 := Lib.hid hb3
    clear hb3
    go_wp2_with fail
    go_quiet (fail)
    obtain ⟨w4, hw4⟩ : ∃ w4, w3.drewN nq = w4 := ⟨_, rfl⟩
    rw [hw4]
    have HB4 : Hid (Below w.heap.size w w4) := Lib.hid (by rw [← hw4]; exact HB3.out.trans ⟨rfl, rfl, rfl, Nat.le_refl _, fun _ _ => rfl⟩)
    clear hw4 hE hE2 hE3 hE4 hEE
    go_wp2_with fail
    go_loopw [10] (fun at_ wr => ∃ j : Nat, j ≤ W ∧ at_ = .int .i64 ((3 * j : Nat) : Int) ∧ Hid (Below w.heap.size w wr)) (fun at_ _ => 30 - (intOf at_).toNat)
    case atStart => exact ⟨0, Nat.zero_le _, rfl, HB4⟩
    case round =>
      obtain ⟨j, hj, rfl, HB⟩ := hrel
      have hj6 : j ≤ 6 := by have := HW6.out; omega
      have HJ := Lib.hid hj
      obtain ⟨k, hk⟩ : ∃ k, 3 * j = k := ⟨_, rfl⟩
      have o1 := order_at j (by omega)
      have o2 := order_at (j + 1) (by omega)
      rw [show 3 * (j + 1) = 3 * j + 3 by omega, show 3 * j + 3 + 3 = 3 * j + 6 by omega] at o2
      rw [hk] at o1 o2 ⊢
      rw [show j % 7 = j by omega] at o1
      unfold orderB at o1 o2
      have k21 : (k : Int) < 21 := by omega
      have k18 : (k : Int) ≤ 18 := by omega
      have kN : k ≤ 18 := by omega
      have kd : decide ((k : Int) < 21) = true := decide_eq_true k21
      have kd2 : ((k : Int) == 21) = false := by simp; omega
      have kd3 : (k == 21) = false := by simp; omega
      have HK := Lib.hid hk
      by_cases hjw : j = W
      · have xO : (⟨#[83, 117, 110, 77, 111, 110, 84, 117, 101, 87, 101, 100, 84, 104, 117, 70, 114, 105, 83, 97, 116, 83, 117, 110]⟩ : ByteArray).extract k (k + 3) = DA := by rw [o1, hjw, HDA.out]
        have xO2 : (⟨#[83, 117, 110, 77, 111, 110, 84, 117, 101, 87, 101, 100, 84, 104, 117, 70, 114, 105, 83, 97, 116, 83, 117, 110]⟩ : ByteArray).extract (k + 3) (k + 6) = DB := by rw [o2, hjw, HDB.out]
        have cA : (DA.toList == DA.toList) = true := beq_self_eq_true _
        have cB : (DB.toList == DB.toList) = true := beq_self_eq_true _
        have tn3 : ((k : Int) + 3).toNat = k + 3 := by omega
        have tn6 : ((k : Int) + 6).toNat = k + 6 := by omega
        obtain ⟨d, hd⟩ : ∃ d, dn % 40 = d := ⟨_, rfl⟩
        obtain ⟨m, hm⟩ : ∃ m, mn % 12 = m := ⟨_, rfl⟩
        obtain ⟨a, ha⟩ : ∃ a, d / 10 = a := ⟨_, rfl⟩
        obtain ⟨b, hb⟩ : ∃ b, d % 10 = b := ⟨_, rfl⟩
        obtain ⟨c, hc⟩ : ∃ c, 3 * m = c := ⟨_, rfl⟩
        obtain ⟨P1, hP1, z1⟩ := dig4_at a (by omega)
        obtain ⟨P2, hP2, z2⟩ := dig10_at b (by omega)
        obtain ⟨P3, hP3, z3⟩ := month_at m (by omega)
        rw [hc] at hP3
        unfold monthB at hP3
        obtain ⟨P0, hP0⟩ : ∃ x, A.extract 0 5 = x := ⟨_, rfl⟩
        obtain ⟨P4, hP4⟩ : ∃ x, A.extract 11 29 = x := ⟨_, rfl⟩
        have z0 : P0.size = 5 := by rw [← hP0, ByteArray.size_extract, zA]; rfl
        have z4 : P4.size = 18 := by rw [← hP4, ByteArray.size_extract, zA]; rfl
        have hP4' : A.extract 11 A.size = P4 := by rw [zA, hP4]
        obtain ⟨Q1, hQ1⟩ : ∃ x, P0 ++ P1 = x := ⟨_, rfl⟩
        obtain ⟨Q2, hQ2⟩ : ∃ x, Q1 ++ P2 = x := ⟨_, rfl⟩
        obtain ⟨Q3, hQ3⟩ : ∃ x, Q2 ++ (⟨#[32]⟩ : ByteArray) = x := ⟨_, rfl⟩
        obtain ⟨Q4, hQ4⟩ : ∃ x, Q3 ++ P3 = x := ⟨_, rfl⟩
        obtain ⟨Q5, hQ5⟩ : ∃ x, Q4 ++ P4 = x := ⟨_, rfl⟩
        have y1 : Q1.size = 6 := by rw [← hQ1, ByteArray.size_append, z0, z1]
        have y2 : Q2.size = 7 := by rw [← hQ2, ByteArray.size_append, y1, z2]
        have y3 : Q3.size = 8 := by rw [← hQ3, ByteArray.size_append, y2]; rfl
        have y4 : Q4.size = 11 := by rw [← hQ4, ByteArray.size_append, y3, z3]
        have y5 : Q5.size = 29 := by rw [← hQ5, ByteArray.size_append, y4, z4]
        obtain ⟨r1, s1⟩ := add_str hQ1 (by omega)
        obtain ⟨r2, s2⟩ := add_str hQ2 (by omega)
        obtain ⟨r3, s3⟩ := add_str hQ3 (by rw [y2]; decide)
        obtain ⟨r4, s4⟩ := add_str hQ4 (by omega)
        obtain ⟨r5, s5⟩ := add_str hQ5 (by omega)
        have CP := Lib.hid (CPA.out Q5 (by omega))
        have CR := Lib.hid (CRA.out Q5 (by omega))
        obtain ⟨X, hX⟩ : ∃ X, (readF Q5.data.toList).1 = X := ⟨_, rfl⟩
        obtain ⟨Y, hY⟩ : ∃ Y, (readF Q5.data.toList).2 = Y := ⟨_, rfl⟩
        rw [hX, hY] at CP CR
        have eX : (X == X) = true := beq_self_eq_true _
        have eY : (Y == Y) = true := beq_self_eq_true _
        have fd : (dn : Int) % 40 = (d : Int) := by omega
        have fd2 : (dn : Int).tmod 40 = (d : Int) := by rw [Int.tmod_eq_emod_of_nonneg (by omega)]; omega
        have fm : (mn : Int) % 12 = (m : Int) := by omega
        have fm2 : (mn : Int).tmod 12 = (m : Int) := by rw [Int.tmod_eq_emod_of_nonneg (by omega)]; omega
        have fa : (d : Int) / 10 = (a : Int) := by omega
        have fb : (d : Int) % 10 = (b : Int) := by omega
        have fb2 : (d : Int).tmod 10 = (b : Int) := by rw [Int.tmod_eq_emod_of_nonneg (by omega)]; omega
        have fc : (3 : Int) * (m : Int) = (c : Int) := by omega
        have a3 : (a : Int) ≤ 3 := by omega
        have b9 : (b : Int) ≤ 9 := by omega
        have c33 : (c : Int) ≤ 33 := by omega
        have d39 : (d : Int) ≤ 39 := by omega
        have m11 : (m : Int) ≤ 11 := by omega
        have ta : ((a : Int) + 1).toNat = a + 1 := by omega
        have tb : ((b : Int) + 1).toNat = b + 1 := by omega
        have tc : ((c : Int) + 3).toNat = c + 3 := by omega
        have wk3 : IntKind.i64.wrap ((k : Int) + 3) = (k : Int) + 3 := wrap_k k 3 (by omega) (by decide)
        have wk6 : IntKind.i64.wrap ((k : Int) + 6) = (k : Int) + 6 := wrap_k k 6 (by omega) (by decide)
        have wd_ : IntKind.i64.wrap (d : Int) = (d : Int) := wrap_n d (by omega)
        have wm_ : IntKind.i64.wrap (m : Int) = (m : Int) := wrap_n m (by omega)
        have wa_ : IntKind.i64.wrap (a : Int) = (a : Int) := wrap_n a (by omega)
        have wc_ : IntKind.i64.wrap (c : Int) = (c : Int) := wrap_n c (by omega)
        have wa1 : IntKind.i64.wrap ((a : Int) + 1) = (a : Int) + 1 := wrap_k a 1 (by omega) (by decide)
        have wb1 : IntKind.i64.wrap ((b : Int) + 1) = (b : Int) + 1 := wrap_k b 1 (by omega) (by decide)
        have wc3 : IntKind.i64.wrap ((c : Int) + 3) = (c : Int) + 3 := wrap_k c 3 (by omega) (by decide)
        clear hjw hj hj6 o1 o2 hd hm ha hb hc hX hY hQ1 hQ2 hQ3 hQ4 hQ5 z0 z1 z2 z3 z4 y1 y2 y3 y4 y5 CPA CRA hdn hmn kN hk
        go_wp2_with fail
        go_quiet (fail)
        go_wp2_with fail
        go_quiet (fail)
        go_wp2_with fail
        go_quiet (fail)
        go_wp2_with fail
        refine (CP.out _ (by exact HB.out.trans ⟨rfl, rfl, rfl, Nat.le_refl _, fun _ _ => rfl⟩)).mono ?_
        rintro e w6 ⟨rfl, hb6⟩
        have HB6 := Lib.hid hb6
        clear hb6
        go_wp2_with fail
        refine (CR.out w6 HB6.out).mono ?_
        rintro e w7 ⟨rfl, hb7⟩
        have HB7 := Lib.hid hb7
        clear hb7
        go_wp2
        go_ret
        exact ⟨rfl, HB7.out⟩
      · have hlt : j + 1 ≤ W := by omega
        obtain ⟨DJ, hDJ⟩ : ∃ D, arrD (day3L.getD j []) = D := ⟨_, rfl⟩
        have xO : (⟨#[83, 117, 110, 77, 111, 110, 84, 117, 101, 87, 101, 100, 84, 104, 117, 70, 114, 105, 83, 97, 116, 83, 117, 110]⟩ : ByteArray).extract k (k + 3) = DJ := by rw [o1, hDJ]
        have cA : (DJ.toList == DA.toList) = false := by
          rw [← hDJ, ← HDA.out, day3_ne hj6 HW6.out]
          simpa using hjw
        have tn3 : ((k : Int) + 3).toNat = k + 3 := by omega
        have HLT := Lib.hid hlt
        have wk3 : IntKind.i64.wrap ((k : Int) + 3) = (k : Int) + 3 := wrap_k k 3 (by omega) (by decide)
        clear hjw hj hj6 o1 o2 hDJ kN hlt hk
        go_wp2_with fail
        go_quiet (fail)
        go_wp2_with fail
        go_roundw
        case rel => exact ⟨j + 1, HLT.out, by have := HK.out; congr 1; omega, Lib.hid (HB.out.trans ⟨rfl, rfl, rfl, Nat.le_refl _, fun _ _ => rfl⟩)⟩
        case measure => have := HK.out; simp [intOf]; omega
end Go.Proofs.YtfnpncmdeimcbaaDoor
