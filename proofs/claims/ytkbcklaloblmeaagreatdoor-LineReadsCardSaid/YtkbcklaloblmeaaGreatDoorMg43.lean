/-
  The reference's Parse, where the first or the third form is missed.
-/
import Derived.Test.YtkbcklaloblmeaaGreatDoorMg42
namespace Go.Proofs.YtkbcklaloblmeaaGreatDoor
open Go.RowKit DateMath

theorem u32_fact (s : ByteArray) (i : Nat) (h : i < s.size) (b : Bool) (hb : decide (s.data.toList.getD i 0 = 32) = b) : ((s[i].toNat : Int) == 32) = b := by
  have := eq32 s[i] 32
  rw [show ((32 : UInt8).toNat : Int) = 32 from rfl] at this
  rw [this, get_u8 h, hb]
set_option maxRecDepth 100000 in
set_option maxHeartbeats 24000000 in
theorem refParse_bad29 (s : ByteArray) (w : World) (hl : s.size = 29) (hR : readF s.data.toList = (0, 80)) (hs : ¬ sepP s.data.toList) : Calls Tryz.prog 32 #[.string s] w (PairPost (readF s.data.toList) w) := by
  have hls : 29 ≤ s.size := by omega
  have HN : Hid (readF s.data.toList = (0, 80)) := Lib.hid hR
  obtain ⟨R, hRR⟩ : ∃ R, readF s.data.toList = R := ⟨_, rfl⟩
  rw [hRR] at HN ⊢
  have e29 : (((s.size : Nat) : Int) == 29) = true := by rw [hl]; rfl
  have e24 : (((s.size : Nat) : Int) == 24) = false := by rw [hl]; rfl
  have hcs : ¬ sl s.data.toList 3 5 = [44, 32] ∨ (sl s.data.toList 3 5 = [44, 32] ∧ ¬ s.data.toList.getD 7 0 = 32) ∨ (sl s.data.toList 3 5 = [44, 32] ∧ s.data.toList.getD 7 0 = 32 ∧ ¬ s.data.toList.getD 11 0 = 32) ∨ (sl s.data.toList 3 5 = [44, 32] ∧ s.data.toList.getD 7 0 = 32 ∧ s.data.toList.getD 11 0 = 32 ∧ ¬ s.data.toList.getD 16 0 = 32) ∨ (sl s.data.toList 3 5 = [44, 32] ∧ s.data.toList.getD 7 0 = 32 ∧ s.data.toList.getD 11 0 = 32 ∧ s.data.toList.getD 16 0 = 32 ∧ ¬ sl s.data.toList 25 29 = [32, 71, 77, 84]) := by
    by_cases a1 : sl s.data.toList 3 5 = [44, 32]
    · by_cases a2 : s.data.toList.getD 7 0 = 32
      · by_cases a3 : s.data.toList.getD 11 0 = 32
        · by_cases a4 : s.data.toList.getD 16 0 = 32
          · by_cases a5 : sl s.data.toList 25 29 = [32, 71, 77, 84]
            · exact absurd ⟨by simpa using hl, a1, a2, a3, a4, a5⟩ hs
            · exact .inr (.inr (.inr (.inr ⟨a1, a2, a3, a4, a5⟩)))
          · exact .inr (.inr (.inr (.inl ⟨a1, a2, a3, a4⟩)))
        · exact .inr (.inr (.inl ⟨a1, a2, a3⟩))
      · exact .inr (.inl ⟨a1, a2⟩)
    · exact .inl a1
  have hext : s.extract 25 s.size = s.extract 25 29 := by rw [hl]
  have b3 : (3 : Int) ≤ (s.size : Int) := by omega
  have b25 : (25 : Int) ≤ (s.size : Int) := by omega
  unfold PairPost
  clear hRR hs hR
  rcases hcs with a1 | ⟨a1, a2⟩ | ⟨a1, a2, a3⟩ | ⟨a1, a2, a3, a4⟩ | ⟨a1, a2, a3, a4, a5⟩
  · have t35 : ((s.extract 3 5).toList == [44, 32]) = false := by rw [ext_list]; simpa using a1
    clear a1
    have hl29 := hl
    go_enter Tryz.func32, Tryz.ntmps32
    go_wp2
    go_loopw [13] (fun i wr => ∃ k : Nat, k ≤ 7 ∧ i = .int .i64 k ∧ Hid (Below w.heap.size w wr)) (fun i _ => 7 - (intOf i).toNat)
    case atStart => exact ⟨0, Nat.zero_le _, rfl, Lib.hid (Below.refl _ _)⟩
    case round =>
      obtain ⟨k, hk, rfl, HB⟩ := hrel
      by_cases hlt : k < 7
      · have i1 : (k : Int) < 7 := by omega
        have CLG := Lib.hid (longs_row wr)
        have hdl := day_len k (by omega)
        obtain ⟨D, hD⟩ : ∃ x, arrD (dayL.getD k []) = x := ⟨_, rfl⟩
        have zD : D.size = (dayL.getD k []).length := arr_len hD
        have RD := Lib.hid (fun (x : World) (h : RowAt x wr.heap.size dayL) => hD ▸ row_getL h k (by have : dayL.length = 7 := rfl; omega))
        have e1 : (((s.size : Nat) : Int) == (D.size : Int) + 24) = false := by simpa using (by omega : ¬ (s.size : Int) = (D.size : Int) + 24)
        have hzb : D.size ≤ 9 ∧ 6 ≤ D.size := by omega
        clear hD zD hdl
        go_wp2_with fail
        refine CLG.out.mono ?_
        rintro e x1 ⟨rfl, hx1⟩
        have cd := RD.out x1 hx1.out.1
        have HB1 := Lib.hid (HB.out.trans (hx1.out.2.mono HB.out.size))
        go_wp2
        go_roundw
        case rel => exact ⟨k + 1, by omega, by go_num, HB1⟩
        case measure => simp [intOf]; omega
      · obtain rfl : k = 7 := by omega
        go_wp2
        go_ret2
        exact ⟨by rw [HN.out]; rfl, HB.out⟩
  · have t35 : ((s.extract 3 5).toList == [44, 32]) = true := by rw [ext_list]; rw [a1]; exact beq_self_eq_true _
    have q7 : (((s[7]'(Nat.lt_of_lt_of_le (by decide) hls)).toNat : Int) == 32) = false := u32_fact s 7 (Nat.lt_of_lt_of_le (by decide) hls) _ (decide_eq_false a2)
    clear a1 a2
    have hl29 := hl
    go_enter Tryz.func32, Tryz.ntmps32
    go_wp2
    go_loopw [13] (fun i wr => ∃ k : Nat, k ≤ 7 ∧ i = .int .i64 k ∧ Hid (Below w.heap.size w wr)) (fun i _ => 7 - (intOf i).toNat)
    case atStart => exact ⟨0, Nat.zero_le _, rfl, Lib.hid (Below.refl _ _)⟩
    case round =>
      obtain ⟨k, hk, rfl, HB⟩ := hrel
      by_cases hlt : k < 7
      · have i1 : (k : Int) < 7 := by omega
        have CLG := Lib.hid (longs_row wr)
        have hdl := day_len k (by omega)
        obtain ⟨D, hD⟩ : ∃ x, arrD (dayL.getD k []) = x := ⟨_, rfl⟩
        have zD : D.size = (dayL.getD k []).length := arr_len hD
        have RD := Lib.hid (fun (x : World) (h : RowAt x wr.heap.size dayL) => hD ▸ row_getL h k (by have : dayL.length = 7 := rfl; omega))
        have e1 : (((s.size : Nat) : Int) == (D.size : Int) + 24) = false := by simpa using (by omega : ¬ (s.size : Int) = (D.size : Int) + 24)
        have hzb : D.size ≤ 9 ∧ 6 ≤ D.size := by omega
        clear hD zD hdl
        go_wp2_with fail
        refine CLG.out.mono ?_
        rintro e x1 ⟨rfl, hx1⟩
        have cd := RD.out x1 hx1.out.1
        have HB1 := Lib.hid (HB.out.trans (hx1.out.2.mono HB.out.size))
        go_wp2
        go_roundw
        case rel => exact ⟨k + 1, by omega, by go_num, HB1⟩
        case measure => simp [intOf]; omega
      · obtain rfl : k = 7 := by omega
        go_wp2
        go_ret2
        exact ⟨by rw [HN.out]; rfl, HB.out⟩
  · have t35 : ((s.extract 3 5).toList == [44, 32]) = true := by rw [ext_list]; rw [a1]; exact beq_self_eq_true _
    have q7 : (((s[7]'(Nat.lt_of_lt_of_le (by decide) hls)).toNat : Int) == 32) = true := u32_fact s 7 (Nat.lt_of_lt_of_le (by decide) hls) _ (decide_eq_true a2)
    have q11 : (((s[11]'(Nat.lt_of_lt_of_le (by decide) hls)).toNat : Int) == 32) = false := u32_fact s 11 (Nat.lt_of_lt_of_le (by decide) hls) _ (decide_eq_false a3)
    clear a1 a2 a3
    have hl29 := hl
    go_enter Tryz.func32, Tryz.ntmps32
    go_wp2
    go_loopw [13] (fun i wr => ∃ k : Nat, k ≤ 7 ∧ i = .int .i64 k ∧ Hid (Below w.heap.size w wr)) (fun i _ => 7 - (intOf i).toNat)
    case atStart => exact ⟨0, Nat.zero_le _, rfl, Lib.hid (Below.refl _ _)⟩
    case round =>
      obtain ⟨k, hk, rfl, HB⟩ := hrel
      by_cases hlt : k < 7
      · have i1 : (k : Int) < 7 := by omega
        have CLG := Lib.hid (longs_row wr)
        have hdl := day_len k (by omega)
        obtain ⟨D, hD⟩ : ∃ x, arrD (dayL.getD k []) = x := ⟨_, rfl⟩
        have zD : D.size = (dayL.getD k []).length := arr_len hD
        have RD := Lib.hid (fun (x : World) (h : RowAt x wr.heap.size dayL) => hD ▸ row_getL h k (by have : dayL.length = 7 := rfl; omega))
        have e1 : (((s.size : Nat) : Int) == (D.size : Int) + 24) = false := by simpa using (by omega : ¬ (s.size : Int) = (D.size : Int) + 24)
        have hzb : D.size ≤ 9 ∧ 6 ≤ D.size := by omega
        clear hD zD hdl
        go_wp2_with fail
        refine CLG.out.mono ?_
        rintro e x1 ⟨rfl, hx1⟩
        have cd := RD.out x1 hx1.out.1
        have HB1 := Lib.hid (HB.out.trans (hx1.out.2.mono HB.out.size))
        go_wp2
        go_roundw
        case rel => exact ⟨k + 1, by omega, by go_num, HB1⟩
        case measure => simp [intOf]; omega
      · obtain rfl : k = 7 := by omega
        go_wp2
        go_ret2
        exact ⟨by rw [HN.out]; rfl, HB.out⟩
  · have t35 : ((s.extract 3 5).toList == [44, 32]) = true := by rw [ext_list]; rw [a1]; exact beq_self_eq_true _
    have q7 : (((s[7]'(Nat.lt_of_lt_of_le (by decide) hls)).toNat : Int) == 32) = true := u32_fact s 7 (Nat.lt_of_lt_of_le (by decide) hls) _ (decide_eq_true a2)
    have q11 : (((s[11]'(Nat.lt_of_lt_of_le (by decide) hls)).toNat : Int) == 32) = true := u32_fact s 11 (Nat.lt_of_lt_of_le (by decide) hls) _ (decide_eq_true a3)
    have q16 : (((s[16]'(Nat.lt_of_lt_of_le (by decide) hls)).toNat : Int) == 32) = false := u32_fact s 16 (Nat.lt_of_lt_of_le (by decide) hls) _ (decide_eq_false a4)
    clear a1 a2 a3 a4
    have hl29 := hl
    go_enter Tryz.func32, Tryz.ntmps32
    go_wp2
    go_loopw [13] (fun i wr => ∃ k : Nat, k ≤ 7 ∧ i = .int .i64 k ∧ Hid (Below w.heap.size w wr)) (fun i _ => 7 - (intOf i).toNat)
    case atStart => exact ⟨0, Nat.zero_le _, rfl, Lib.hid (Below.refl _ _)⟩
    case round =>
      obtain ⟨k, hk, rfl, HB⟩ := hrel
      by_cases hlt : k < 7
      · have i1 : (k : Int) < 7 := by omega
        have CLG := Lib.hid (longs_row wr)
        have hdl := day_len k (by omega)
        obtain ⟨D, hD⟩ : ∃ x, arrD (dayL.getD k []) = x := ⟨_, rfl⟩
        have zD : D.size = (dayL.getD k []).length := arr_len hD
        have RD := Lib.hid (fun (x : World) (h : RowAt x wr.heap.size dayL) => hD ▸ row_getL h k (by have : dayL.length = 7 := rfl; omega))
        have e1 : (((s.size : Nat) : Int) == (D.size : Int) + 24) = false := by simpa using (by omega : ¬ (s.size : Int) = (D.size : Int) + 24)
        have hzb : D.size ≤ 9 ∧ 6 ≤ D.size := by omega
        clear hD zD hdl
        go_wp2_with fail
        refine CLG.out.mono ?_
        rintro e x1 ⟨rfl, hx1⟩
        have cd := RD.out x1 hx1.out.1
        have HB1 := Lib.hid (HB.out.trans (hx1.out.2.mono HB.out.size))
        go_wp2
        go_roundw
        case rel => exact ⟨k + 1, by omega, by go_num, HB1⟩
        case measure => simp [intOf]; omega
      · obtain rfl : k = 7 := by omega
        go_wp2
        go_ret2
        exact ⟨by rw [HN.out]; rfl, HB.out⟩
  · have t35 : ((s.extract 3 5).toList == [44, 32]) = true := by rw [ext_list]; rw [a1]; exact beq_self_eq_true _
    have q7 : (((s[7]'(Nat.lt_of_lt_of_le (by decide) hls)).toNat : Int) == 32) = true := u32_fact s 7 (Nat.lt_of_lt_of_le (by decide) hls) _ (decide_eq_true a2)
    have q11 : (((s[11]'(Nat.lt_of_lt_of_le (by decide) hls)).toNat : Int) == 32) = true := u32_fact s 11 (Nat.lt_of_lt_of_le (by decide) hls) _ (decide_eq_true a3)
    have q16 : (((s[16]'(Nat.lt_of_lt_of_le (by decide) hls)).toNat : Int) == 32) = true := u32_fact s 16 (Nat.lt_of_lt_of_le (by decide) hls) _ (decide_eq_true a4)
    have t25 : ((s.extract 25 29).toList == [32, 71, 77, 84]) = false := by rw [ext_list]; simpa using a5
    clear a1 a2 a3 a4 a5
    have hl29 := hl
    go_enter Tryz.func32, Tryz.ntmps32
    go_wp2
    go_loopw [13] (fun i wr => ∃ k : Nat, k ≤ 7 ∧ i = .int .i64 k ∧ Hid (Below w.heap.size w wr)) (fun i _ => 7 - (intOf i).toNat)
    case atStart => exact ⟨0, Nat.zero_le _, rfl, Lib.hid (Below.refl _ _)⟩
    case round =>
      obtain ⟨k, hk, rfl, HB⟩ := hrel
      by_cases hlt : k < 7
      · have i1 : (k : Int) < 7 := by omega
        have CLG := Lib.hid (longs_row wr)
        have hdl := day_len k (by omega)
        obtain ⟨D, hD⟩ : ∃ x, arrD (dayL.getD k []) = x := ⟨_, rfl⟩
        have zD : D.size = (dayL.getD k []).length := arr_len hD
        have RD := Lib.hid (fun (x : World) (h : RowAt x wr.heap.size dayL) => hD ▸ row_getL h k (by have : dayL.length = 7 := rfl; omega))
        have e1 : (((s.size : Nat) : Int) == (D.size : Int) + 24) = false := by simpa using (by omega : ¬ (s.size : Int) = (D.size : Int) + 24)
        have hzb : D.size ≤ 9 ∧ 6 ≤ D.size := by omega
        clear hD zD hdl
        go_wp2_with fail
        refine CLG.out.mono ?_
        rintro e x1 ⟨rfl, hx1⟩
        have cd := RD.out x1 hx1.out.1
        have HB1 := Lib.hid (HB.out.trans (hx1.out.2.mono HB.out.size))
        go_wp2
        go_roundw
        case rel => exact ⟨k + 1, by omega, by go_num, HB1⟩
        case measure => simp [intOf]; omega
      · obtain rfl : k = 7 := by omega
        go_wp2
        go_ret2
        exact ⟨by rw [HN.out]; rfl, HB.out⟩
set_option maxRecDepth 100000 in
set_option maxHeartbeats 24000000 in
theorem refParse_bad24 (s : ByteArray) (w : World) (hl : s.size = 24) (hR : readF s.data.toList = (0, 80)) (hs : ¬ sepO s.data.toList) : Calls Tryz.prog 32 #[.string s] w (PairPost (readF s.data.toList) w) := by
  have hls : 24 ≤ s.size := by omega
  have HN : Hid (readF s.data.toList = (0, 80)) := Lib.hid hR
  obtain ⟨R, hRR⟩ : ∃ R, readF s.data.toList = R := ⟨_, rfl⟩
  rw [hRR] at HN ⊢
  have e29 : (((s.size : Nat) : Int) == 29) = false := by rw [hl]; rfl
  have e24 : (((s.size : Nat) : Int) == 24) = true := by rw [hl]; rfl
  have hcs : ¬ s.data.toList.getD 3 0 = 32 ∨ (s.data.toList.getD 3 0 = 32 ∧ ¬ s.data.toList.getD 7 0 = 32) ∨ (s.data.toList.getD 3 0 = 32 ∧ s.data.toList.getD 7 0 = 32 ∧ ¬ s.data.toList.getD 10 0 = 32) ∨ (s.data.toList.getD 3 0 = 32 ∧ s.data.toList.getD 7 0 = 32 ∧ s.data.toList.getD 10 0 = 32 ∧ ¬ s.data.toList.getD 19 0 = 32) := by
    by_cases a1 : s.data.toList.getD 3 0 = 32
    · by_cases a2 : s.data.toList.getD 7 0 = 32
      · by_cases a3 : s.data.toList.getD 10 0 = 32
        · by_cases a4 : s.data.toList.getD 19 0 = 32
          · exact absurd ⟨by simpa using hl, a1, a2, a3, a4⟩ hs
          · exact .inr (.inr (.inr ⟨a1, a2, a3, a4⟩))
        · exact .inr (.inr (.inl ⟨a1, a2, a3⟩))
      · exact .inr (.inl ⟨a1, a2⟩)
    · exact .inl a1
  unfold PairPost
  clear hRR hs hR
  rcases hcs with a1 | ⟨a1, a2⟩ | ⟨a1, a2, a3⟩ | ⟨a1, a2, a3, a4⟩
  · have q3 : (((s[3]'(Nat.lt_of_lt_of_le (by decide) hls)).toNat : Int) == 32) = false := u32_fact s 3 (Nat.lt_of_lt_of_le (by decide) hls) _ (decide_eq_false a1)
    clear a1
    go_enter Tryz.func32, Tryz.ntmps32
    go_wp2
    go_loopw [13] (fun i wr => ∃ k : Nat, k ≤ 7 ∧ i = .int .i64 k ∧ Hid (Below w.heap.size w wr)) (fun i _ => 7 - (intOf i).toNat)
    case atStart => exact ⟨0, Nat.zero_le _, rfl, Lib.hid (Below.refl _ _)⟩
    case round =>
      obtain ⟨k, hk, rfl, HB⟩ := hrel
      by_cases hlt : k < 7
      · have i1 : (k : Int) < 7 := by omega
        have CLG := Lib.hid (longs_row wr)
        have hdl := day_len k (by omega)
        obtain ⟨D, hD⟩ : ∃ x, arrD (dayL.getD k []) = x := ⟨_, rfl⟩
        have zD : D.size = (dayL.getD k []).length := arr_len hD
        have RD := Lib.hid (fun (x : World) (h : RowAt x wr.heap.size dayL) => hD ▸ row_getL h k (by have : dayL.length = 7 := rfl; omega))
        have e1 : (((s.size : Nat) : Int) == (D.size : Int) + 24) = false := by simpa using (by omega : ¬ (s.size : Int) = (D.size : Int) + 24)
        have hzb : D.size ≤ 9 ∧ 6 ≤ D.size := by omega
        clear hD zD hdl
        go_wp2_with fail
        refine CLG.out.mono ?_
        rintro e x1 ⟨rfl, hx1⟩
        have cd := RD.out x1 hx1.out.1
        have HB1 := Lib.hid (HB.out.trans (hx1.out.2.mono HB.out.size))
        go_wp2
        go_roundw
        case rel => exact ⟨k + 1, by omega, by go_num, HB1⟩
        case measure => simp [intOf]; omega
      · obtain rfl : k = 7 := by omega
        go_wp2
        go_ret2
        exact ⟨by rw [HN.out]; rfl, HB.out⟩
  · have q3 : (((s[3]'(Nat.lt_of_lt_of_le (by decide) hls)).toNat : Int) == 32) = true := u32_fact s 3 (Nat.lt_of_lt_of_le (by decide) hls) _ (decide_eq_true a1)
    have q7 : (((s[7]'(Nat.lt_of_lt_of_le (by decide) hls)).toNat : Int) == 32) = false := u32_fact s 7 (Nat.lt_of_lt_of_le (by decide) hls) _ (decide_eq_false a2)
    clear a1 a2
    go_enter Tryz.func32, Tryz.ntmps32
    go_wp2
    go_loopw [13] (fun i wr => ∃ k : Nat, k ≤ 7 ∧ i = .int .i64 k ∧ Hid (Below w.heap.size w wr)) (fun i _ => 7 - (intOf i).toNat)
    case atStart => exact ⟨0, Nat.zero_le _, rfl, Lib.hid (Below.refl _ _)⟩
    case round =>
      obtain ⟨k, hk, rfl, HB⟩ := hrel
      by_cases hlt : k < 7
      · have i1 : (k : Int) < 7 := by omega
        have CLG := Lib.hid (longs_row wr)
        have hdl := day_len k (by omega)
        obtain ⟨D, hD⟩ : ∃ x, arrD (dayL.getD k []) = x := ⟨_, rfl⟩
        have zD : D.size = (dayL.getD k []).length := arr_len hD
        have RD := Lib.hid (fun (x : World) (h : RowAt x wr.heap.size dayL) => hD ▸ row_getL h k (by have : dayL.length = 7 := rfl; omega))
        have e1 : (((s.size : Nat) : Int) == (D.size : Int) + 24) = false := by simpa using (by omega : ¬ (s.size : Int) = (D.size : Int) + 24)
        have hzb : D.size ≤ 9 ∧ 6 ≤ D.size := by omega
        clear hD zD hdl
        go_wp2_with fail
        refine CLG.out.mono ?_
        rintro e x1 ⟨rfl, hx1⟩
        have cd := RD.out x1 hx1.out.1
        have HB1 := Lib.hid (HB.out.trans (hx1.out.2.mono HB.out.size))
        go_wp2
        go_roundw
        case rel => exact ⟨k + 1, by omega, by go_num, HB1⟩
        case measure => simp [intOf]; omega
      · obtain rfl : k = 7 := by omega
        go_wp2
        go_ret2
        exact ⟨by rw [HN.out]; rfl, HB.out⟩
  · have q3 : (((s[3]'(Nat.lt_of_lt_of_le (by decide) hls)).toNat : Int) == 32) = true := u32_fact s 3 (Nat.lt_of_lt_of_le (by decide) hls) _ (decide_eq_true a1)
    have q7 : (((s[7]'(Nat.lt_of_lt_of_le (by decide) hls)).toNat : Int) == 32) = true := u32_fact s 7 (Nat.lt_of_lt_of_le (by decide) hls) _ (decide_eq_true a2)
    have q10 : (((s[10]'(Nat.lt_of_lt_of_le (by decide) hls)).toNat : Int) == 32) = false := u32_fact s 10 (Nat.lt_of_lt_of_le (by decide) hls) _ (decide_eq_false a3)
    clear a1 a2 a3
    go_enter Tryz.func32, Tryz.ntmps32
    go_wp2
    go_loopw [13] (fun i wr => ∃ k : Nat, k ≤ 7 ∧ i = .int .i64 k ∧ Hid (Below w.heap.size w wr)) (fun i _ => 7 - (intOf i).toNat)
    case atStart => exact ⟨0, Nat.zero_le _, rfl, Lib.hid (Below.refl _ _)⟩
    case round =>
      obtain ⟨k, hk, rfl, HB⟩ := hrel
      by_cases hlt : k < 7
      · have i1 : (k : Int) < 7 := by omega
        have CLG := Lib.hid (longs_row wr)
        have hdl := day_len k (by omega)
        obtain ⟨D, hD⟩ : ∃ x, arrD (dayL.getD k []) = x := ⟨_, rfl⟩
        have zD : D.size = (dayL.getD k []).length := arr_len hD
        have RD := Lib.hid (fun (x : World) (h : RowAt x wr.heap.size dayL) => hD ▸ row_getL h k (by have : dayL.length = 7 := rfl; omega))
        have e1 : (((s.size : Nat) : Int) == (D.size : Int) + 24) = false := by simpa using (by omega : ¬ (s.size : Int) = (D.size : Int) + 24)
        have hzb : D.size ≤ 9 ∧ 6 ≤ D.size := by omega
        clear hD zD hdl
        go_wp2_with fail
        refine CLG.out.mono ?_
        rintro e x1 ⟨rfl, hx1⟩
        have cd := RD.out x1 hx1.out.1
        have HB1 := Lib.hid (HB.out.trans (hx1.out.2.mono HB.out.size))
        go_wp2
        go_roundw
        case rel => exact ⟨k + 1, by omega, by go_num, HB1⟩
        case measure => simp [intOf]; omega
      · obtain rfl : k = 7 := by omega
        go_wp2
        go_ret2
        exact ⟨by rw [HN.out]; rfl, HB.out⟩
  · have q3 : (((s[3]'(Nat.lt_of_lt_of_le (by decide) hls)).toNat : Int) == 32) = true := u32_fact s 3 (Nat.lt_of_lt_of_le (by decide) hls) _ (decide_eq_true a1)
    have q7 : (((s[7]'(Nat.lt_of_lt_of_le (by decide) hls)).toNat : Int) == 32) = true := u32_fact s 7 (Nat.lt_of_lt_of_le (by decide) hls) _ (decide_eq_true a2)
    have q10 : (((s[10]'(Nat.lt_of_lt_of_le (by decide) hls)).toNat : Int) == 32) = true := u32_fact s 10 (Nat.lt_of_lt_of_le (by decide) hls) _ (decide_eq_true a3)
    have q19 : (((s[19]'(Nat.lt_of_lt_of_le (by decide) hls)).toNat : Int) == 32) = false := u32_fact s 19 (Nat.lt_of_lt_of_le (by decide) hls) _ (decide_eq_false a4)
    clear a1 a2 a3 a4
    go_enter Tryz.func32, Tryz.ntmps32
    go_wp2
    go_loopw [13] (fun i wr => ∃ k : Nat, k ≤ 7 ∧ i = .int .i64 k ∧ Hid (Below w.heap.size w wr)) (fun i _ => 7 - (intOf i).toNat)
    case atStart => exact ⟨0, Nat.zero_le _, rfl, Lib.hid (Below.refl _ _)⟩
    case round =>
      obtain ⟨k, hk, rfl, HB⟩ := hrel
      by_cases hlt : k < 7
      · have i1 : (k : Int) < 7 := by omega
        have CLG := Lib.hid (longs_row wr)
        have hdl := day_len k (by omega)
        obtain ⟨D, hD⟩ : ∃ x, arrD (dayL.getD k []) = x := ⟨_, rfl⟩
        have zD : D.size = (dayL.getD k []).length := arr_len hD
        have RD := Lib.hid (fun (x : World) (h : RowAt x wr.heap.size dayL) => hD ▸ row_getL h k (by have : dayL.length = 7 := rfl; omega))
        have e1 : (((s.size : Nat) : Int) == (D.size : Int) + 24) = false := by simpa using (by omega : ¬ (s.size : Int) = (D.size : Int) + 24)
        have hzb : D.size ≤ 9 ∧ 6 ≤ D.size := by omega
        clear hD zD hdl
        go_wp2_with fail
        refine CLG.out.mono ?_
        rintro e x1 ⟨rfl, hx1⟩
        have cd := RD.out x1 hx1.out.1
        have HB1 := Lib.hid (HB.out.trans (hx1.out.2.mono HB.out.size))
        go_wp2
        go_roundw
        case rel => exact ⟨k + 1, by omega, by go_num, HB1⟩
        case measure => simp [intOf]; omega
      · obtain rfl : k = 7 := by omega
        go_wp2
        go_ret2
        exact ⟨by rw [HN.out]; rfl, HB.out⟩
end Go.Proofs.YtkbcklaloblmeaaGreatDoor
