/-
  The reference's Parse, of the third form.
-/
import Derived.Test.YtkbcklaloblmeaaGreatDoorMg16
namespace Go.Proofs.YtkbcklaloblmeaaGreatDoor
open Go.RowKit DateMath

set_option maxRecDepth 100000 in
set_option maxHeartbeats 24000000 in
theorem refParse_old (s : ByteArray) (w : World) (hs : sepO s.data.toList) : Calls Tryz.prog 32 #[.string s] w (PairPost (readF s.data.toList) w) := by
  have hl : s.size = 24 := by have := hs.1; simpa using this
  have hls : 24 ≤ s.size := by omega
  have HR := Lib.hid (ref_old _ hs)
  obtain ⟨_, a1, a2, a3, a4⟩ := hs
  have t3 : ((s[3]'(Nat.lt_of_lt_of_le (by decide) hls)).toNat : Int) = 32 := by rw [get_u8, a1]; rfl
  have t7 : ((s[7]'(Nat.lt_of_lt_of_le (by decide) hls)).toNat : Int) = 32 := by rw [get_u8, a2]; rfl
  have t10 : ((s[10]'(Nat.lt_of_lt_of_le (by decide) hls)).toNat : Int) = 32 := by rw [get_u8, a3]; rfl
  have t19 : ((s[19]'(Nat.lt_of_lt_of_le (by decide) hls)).toNat : Int) = 32 := by rw [get_u8, a4]; rfl
  have x1 : (s.extract 8 10).data.toList = sl s.data.toList 8 10 := by rw [Lib.extract_data]; rfl
  have hext : s.extract 20 s.size = s.extract 20 24 := by rw [hl]
  have x2 : (s.extract 20 24).data.toList = sl s.data.toList 20 24 := by rw [Lib.extract_data]; rfl
  have x3 : (s.extract 0 3).data.toList = sl s.data.toList 0 3 := by rw [Lib.extract_data]; rfl
  have x4 : (s.extract 4 7).data.toList = sl s.data.toList 4 7 := by rw [Lib.extract_data]; rfl
  have x5 : (s.extract 11 19).data.toList = sl s.data.toList 11 19 := by rw [Lib.extract_data]; rfl
  obtain ⟨S1, h1⟩ : ∃ x, s.extract 8 10 = x := ⟨_, rfl⟩
  obtain ⟨S2, h2⟩ : ∃ x, s.extract 20 24 = x := ⟨_, rfl⟩
  obtain ⟨S3, h3⟩ : ∃ x, s.extract 0 3 = x := ⟨_, rfl⟩
  obtain ⟨S4, h4⟩ : ∃ x, s.extract 4 7 = x := ⟨_, rfl⟩
  obtain ⟨S5, h5⟩ : ∃ x, s.extract 11 19 = x := ⟨_, rfl⟩
  have z1 : S1.size = 2 := by rw [← h1, ByteArray.size_extract]; omega
  have z1' : 2 ≤ S1.size := by omega
  have z2 : S2.size ≤ 4 := by rw [← h2, ByteArray.size_extract]; omega
  have z5 : S5.size = 8 := by rw [← h5, ByteArray.size_extract]; omega
  rw [h1] at x1
  rw [h2] at x2 hext
  rw [h3] at x3
  rw [h4] at x4
  rw [h5] at x5
  have y1 : (S1.extract 1 S1.size).data.toList = sl s.data.toList 9 10 := by
    rw [Lib.extract_data, x1, z1]
    unfold sl
    rw [List.drop_take, List.drop_drop, List.take_take]
    rfl
  obtain ⟨S6, h6⟩ : ∃ x, S1.extract 1 S1.size = x := ⟨_, rfl⟩
  have z6 : S6.size ≤ 4 := by rw [← h6, ByteArray.size_extract]; omega
  rw [h6] at y1
  have hb8 : S1[0]'(Nat.lt_of_lt_of_le (by decide) z1') = s.data.toList.getD 8 0 := by
    rw [get_u8, x1]
    unfold sl
    simp [List.getD_eq_getElem?_getD]
  obtain ⟨b8, hb⟩ : ∃ b, S1[0]'(Nat.lt_of_lt_of_le (by decide) z1') = b := ⟨_, rfl⟩
  have hod : oldDay s.data.toList = if b8 = 32 then numF (sl s.data.toList 9 10) 4 else if b8 = 48 then none else numF (sl s.data.toList 8 10) 4 := by
    unfold oldDay
    rw [← hb8, hb]
  have l1 : ∀ d, oldDay s.data.toList = some d → d ≤ 9999 := by
    intro d h
    rw [hod] at h
    split at h
    · have := num_le4 (sl s.data.toList 9 10); rw [h] at this; exact this
    · split at h
      · cases h
      · have := num_le4 (sl s.data.toList 8 10); rw [h] at this; exact this
  have D1 := fun x => refDigits_any S1 x (by omega)
  have D6 := fun x => refDigits_any S6 x z6
  have D2 := fun x => refDigits_any S2 x z2
  unfold numV at D1 D2 D6
  rw [x1] at D1
  rw [y1] at D6
  rw [x2] at D2
  have l2 := num_le4 (sl s.data.toList 20 24)
  have i1 := idx_lt day3L (sl s.data.toList 0 3)
  have i2 := idx_ge day3L (sl s.data.toList 0 3)
  have i3 := idx_lt monL (sl s.data.toList 4 7)
  have i4 := idx_ge monL (sl s.data.toList 4 7)
  have e7 : day3L.length = 7 := rfl
  have e12 : monL.length = 12 := rfl
  obtain ⟨R, hR⟩ : ∃ R, readF s.data.toList = R := ⟨_, rfl⟩
  obtain ⟨o2, ho2⟩ : ∃ o, numF (sl s.data.toList 20 24) 4 = o := ⟨_, rfl⟩
  rw [ho2] at D2 l2 HR
  rw [hR] at HR ⊢
  have C2 := Lib.hid D2
  have X3 := Lib.hid x3
  have X4 := Lib.hid x4
  have X5 := Lib.hid x5
  have Z5 := Lib.hid z5
  have I := Lib.hid (show (-1 ≤ idxF day3L (sl s.data.toList 0 3) ∧ idxF day3L (sl s.data.toList 0 3) ≤ 6) ∧ (-1 ≤ idxF monL (sl s.data.toList 4 7) ∧ idxF monL (sl s.data.toList 4 7) ≤ 11) from ⟨⟨i2, by omega⟩, ⟨i4, by omega⟩⟩)
  have e29 : (((s.size : Nat) : Int) == 29) = false := by rw [hl]; rfl
  have e24 : (((s.size : Nat) : Int) == 24) = true := by rw [hl]; rfl
  have q3 : (((s[3]'(Nat.lt_of_lt_of_le (by decide) hls)).toNat : Int) == 32) = true := by rw [t3]; rfl
  have q7 : (((s[7]'(Nat.lt_of_lt_of_le (by decide) hls)).toNat : Int) == 32) = true := by rw [t7]; rfl
  have q10 : (((s[10]'(Nat.lt_of_lt_of_le (by decide) hls)).toNat : Int) == 32) = true := by rw [t10]; rfl
  have q19 : (((s[19]'(Nat.lt_of_lt_of_le (by decide) hls)).toNat : Int) == 32) = true := by rw [t19]; rfl
  have b3 : (3 : Int) ≤ (s.size : Int) := by omega
  have b7 : (7 : Int) ≤ (s.size : Int) := by omega
  have b19' : (19 : Int) ≤ (s.size : Int) := by omega
  have b8l := b8.toNat_lt
  have u32 : ((b8.toNat : Int) == 32) = decide (b8 = 32) := eq32 b8 32
  have u48 : ((b8.toNat : Int) == 48) = decide (b8 = 48) := eq32 b8 48
  have HZ1 := Lib.hid z1
  have w1b : (1 : Int) ≤ (S1.size : Int) := by omega
  have HOD := Lib.hid hod
  have HL1 := Lib.hid l1
  have C1 := Lib.hid D1
  have C6 := Lib.hid D6
  clear z1 D1 D2 D6 a1 a2 a3 a4 x1 x2 x3 x4 x5 y1 z2 z5 z6 i1 i2 i3 i4 e7 e12 hR ho2 t3 t7 t10 t19 hb8 hod l1 hl
  unfold PairPost
  by_cases q8 : b8 = 32
  · rw [decide_eq_true q8] at u32
    have HOE : Hid (oldDay s.data.toList = numF (sl s.data.toList 9 10) 4) := Lib.hid (by rw [HOD.out, if_pos q8])
    have l1 := HL1.out
    obtain ⟨o1, ho1⟩ : ∃ o, numF (sl s.data.toList 9 10) 4 = o := ⟨_, rfl⟩
    rw [ho1] at C6 HOE
    rw [HOE.out] at HR l1
    clear u48 HOD HL1 HOE ho1 q8
    cases o1 with
    | none =>
      have HN : Hid (R = (0, 80)) := Lib.hid (by rw [← HR.out])
      clear HR
      go_enter Tryz.func32, Tryz.ntmps32
      go_wp2_with fail
      refine (C6.out w).mono ?_
      rintro e w1 ⟨rfl, hw1⟩
      replace hw1 := hw1.symm
      subst hw1
      go_wp2_with fail
      refine (C2.out w).mono ?_
      rintro e w1 ⟨rfl, hw1⟩
      replace hw1 := hw1.symm
      subst hw1
      go_wp2
      go_ret2
      exact ⟨by rw [HN.out]; rfl, Below.refl _ _⟩
    | some d =>
      cases o2 with
      | none =>
        have HN : Hid (R = (0, 80)) := Lib.hid (by rw [← HR.out])
        clear HR
        go_enter Tryz.func32, Tryz.ntmps32
        go_wp2_with fail
        refine (C6.out w).mono ?_
        rintro e w1 ⟨rfl, hw1⟩
        replace hw1 := hw1.symm
        subst hw1
        go_wp2_with fail
        refine (C2.out w).mono ?_
        rintro e w1 ⟨rfl, hw1⟩
        replace hw1 := hw1.symm
        subst hw1
        go_wp2
        go_ret2
        exact ⟨by rw [HN.out]; rfl, Below.refl _ _⟩
      | some y =>
        have HN : Hid (R = madeF (idxF day3L (sl s.data.toList 0 3)) y (idxF monL (sl s.data.toList 4 7)) d (sl s.data.toList 11 19)) := Lib.hid (by rw [← HR.out])
        have CI1 : Hid (∀ (x : World) (g : Nat), RowAt x g day3L → Calls Tryz.prog 63 #[.slice (some ⟨g, 0, none⟩) 7 7, .string S3] x fun e w' => e = .returned (.int .i64 (idxF day3L (sl s.data.toList 0 3))) ∧ w' = x) := Lib.hid (fun x g h => by rw [← X3.out]; exact index_row h (by decide) 7 rfl S3)
        have CI2 : Hid (∀ (x : World) (g : Nat), RowAt x g monL → Calls Tryz.prog 63 #[.slice (some ⟨g, 0, none⟩) 12 12, .string S4] x fun e w' => e = .returned (.int .i64 (idxF monL (sl s.data.toList 4 7))) ∧ w' = x) := Lib.hid (fun x g h => by rw [← X4.out]; exact index_row h (by decide) 12 rfl S4)
        have CM : Hid (∀ (x : World), Calls Tryz.prog 62 #[.int .i64 (idxF day3L (sl s.data.toList 0 3)), .int .i64 y, .int .i64 (idxF monL (sl s.data.toList 4 7)), .int .i64 d, .string S5] x (PairPost (madeF (idxF day3L (sl s.data.toList 0 3)) y (idxF monL (sl s.data.toList 4 7)) d (sl s.data.toList 11 19)) x)) := Lib.hid (fun x => by rw [← X5.out]; exact refMade_any (idxF day3L (sl s.data.toList 0 3)) y (idxF monL (sl s.data.toList 4 7)) d S5 x I.out.1.1 I.out.1.2 l2 I.out.2.1 I.out.2.2 (l1 d rfl) Z5.out)
        obtain ⟨n1, hn1⟩ : ∃ n, idxF day3L (sl s.data.toList 0 3) = n := ⟨_, rfl⟩
        obtain ⟨n2, hn2⟩ : ∃ n, idxF monL (sl s.data.toList 4 7) = n := ⟨_, rfl⟩
        rw [hn1] at HN CI1 CM I
        rw [hn2] at HN CI2 CM I
        rw [← HN.out] at CM
        clear HR hn1 hn2
        simp only [Option.getD_some, Option.isSome_some] at C6 C2 l2
        unfold PairPost at CM
        go_enter Tryz.func32, Tryz.ntmps32
        go_wp2_with fail
        refine (C6.out w).mono ?_
        rintro e w1 ⟨rfl, hw1⟩
        replace hw1 := hw1.symm
        subst hw1
        go_wp2_with fail
        refine (C2.out w).mono ?_
        rintro e w1 ⟨rfl, hw1⟩
        replace hw1 := hw1.symm
        subst hw1
        go_wp2
        go_region_held3 (fun _ => True) (exact trivial) (first
          | (go_simp
             go_at_call 49
             (with_reducible refine Calls.mono (days_row _) ?_)
             rintro e x1 ⟨rfl, hx1⟩
             have hr1 : RowAt x1 w.heap.size day3L := hx1.out.1)
          | (go_simp
             go_at_call 63
             (with_reducible refine Calls.mono (CI1.out _ _ hr1) ?_)
             rintro e x2 ⟨rfl, hx2⟩
             replace hx2 := hx2.symm
             subst hx2)
          | (go_simp
             go_at_call 51
             (with_reducible refine Calls.mono (months_row _) ?_)
             rintro e x3 ⟨rfl, hx3⟩
             have hr3 := hx3.out.1)
          | (go_simp
             go_at_call 63
             (with_reducible refine Calls.mono (CI2.out _ _ hr3) ?_)
             rintro e x4 ⟨rfl, hx4⟩
             replace hx4 := hx4.symm
             subst hx4)
          | (go_simp
             go_at_call 62
             (with_reducible refine Calls.mono (CM.out _) ?_)
             rintro e x5 ⟨rfl, hx5⟩)
          | fail)
        have hf1 : Below w.heap.size w x1 := (Below.drew (Below.refl _ _)).trans hx1.out.2
        have hf3 := hf1.trans (hx3.out.2.mono hf1.size)
        have HF := Lib.hid (hf3.trans (hx5.mono hf3.size))
        clear hf1 hf3 hx5 hr1 hr3
        go_wp2
        go_ret2
        exact ⟨rfl, HF.out⟩
  · rw [decide_eq_false q8] at u32
    by_cases q9 : b8 = 48
    · rw [decide_eq_true q9] at u48
      have HOE : Hid (oldDay s.data.toList = none) := Lib.hid (by rw [HOD.out, if_neg q8, if_pos q9])
      rw [HOE.out] at HR
      have HN : Hid (R = (0, 80)) := Lib.hid (by rw [← HR.out])
      clear HR HOE HOD HL1 q8 q9
      go_enter Tryz.func32, Tryz.ntmps32
      go_wp2
      go_ret2
      exact ⟨by rw [HN.out]; rfl, Below.refl _ _⟩
    · rw [decide_eq_false q9] at u48
      have HOE : Hid (oldDay s.data.toList = numF (sl s.data.toList 8 10) 4) := Lib.hid (by rw [HOD.out, if_neg q8, if_neg q9])
      have l1 := HL1.out
      obtain ⟨o1, ho1⟩ : ∃ o, numF (sl s.data.toList 8 10) 4 = o := ⟨_, rfl⟩
      rw [ho1] at C1 HOE
      rw [HOE.out] at HR l1
      clear HOD HL1 HOE ho1 q8 q9
      cases o1 with
      | none =>
        have HN : Hid (R = (0, 80)) := Lib.hid (by rw [← HR.out])
        clear HR
        go_enter Tryz.func32, Tryz.ntmps32
        go_wp2_with fail
        refine (C1.out w).mono ?_
        rintro e w1 ⟨rfl, hw1⟩
        replace hw1 := hw1.symm
        subst hw1
        go_wp2_with fail
        refine (C2.out w).mono ?_
        rintro e w1 ⟨rfl, hw1⟩
        replace hw1 := hw1.symm
        subst hw1
        go_wp2
        go_ret2
        exact ⟨by rw [HN.out]; rfl, Below.refl _ _⟩
      | some d =>
        cases o2 with
        | none =>
          have HN : Hid (R = (0, 80)) := Lib.hid (by rw [← HR.out])
          clear HR
          go_enter Tryz.func32, Tryz.ntmps32
          go_wp2_with fail
          refine (C1.out w).mono ?_
          rintro e w1 ⟨rfl, hw1⟩
          replace hw1 := hw1.symm
          subst hw1
          go_wp2_with fail
          refine (C2.out w).mono ?_
          rintro e w1 ⟨rfl, hw1⟩
          replace hw1 := hw1.symm
          subst hw1
          go_wp2
          go_ret2
          exact ⟨by rw [HN.out]; rfl, Below.refl _ _⟩
        | some y =>
          have HN : Hid (R = madeF (idxF day3L (sl s.data.toList 0 3)) y (idxF monL (sl s.data.toList 4 7)) d (sl s.data.toList 11 19)) := Lib.hid (by rw [← HR.out])
          have CI1 : Hid (∀ (x : World) (g : Nat), RowAt x g day3L → Calls Tryz.prog 63 #[.slice (some ⟨g, 0, none⟩) 7 7, .string S3] x fun e w' => e = .returned (.int .i64 (idxF day3L (sl s.data.toList 0 3))) ∧ w' = x) := Lib.hid (fun x g h => by rw [← X3.out]; exact index_row h (by decide) 7 rfl S3)
          have CI2 : Hid (∀ (x : World) (g : Nat), RowAt x g monL → Calls Tryz.prog 63 #[.slice (some ⟨g, 0, none⟩) 12 12, .string S4] x fun e w' => e = .returned (.int .i64 (idxF monL (sl s.data.toList 4 7))) ∧ w' = x) := Lib.hid (fun x g h => by rw [← X4.out]; exact index_row h (by decide) 12 rfl S4)
          have CM : Hid (∀ (x : World), Calls Tryz.prog 62 #[.int .i64 (idxF day3L (sl s.data.toList 0 3)), .int .i64 y, .int .i64 (idxF monL (sl s.data.toList 4 7)), .int .i64 d, .string S5] x (PairPost (madeF (idxF day3L (sl s.data.toList 0 3)) y (idxF monL (sl s.data.toList 4 7)) d (sl s.data.toList 11 19)) x)) := Lib.hid (fun x => by rw [← X5.out]; exact refMade_any (idxF day3L (sl s.data.toList 0 3)) y (idxF monL (sl s.data.toList 4 7)) d S5 x I.out.1.1 I.out.1.2 l2 I.out.2.1 I.out.2.2 (l1 d rfl) Z5.out)
          obtain ⟨n1, hn1⟩ : ∃ n, idxF day3L (sl s.data.toList 0 3) = n := ⟨_, rfl⟩
          obtain ⟨n2, hn2⟩ : ∃ n, idxF monL (sl s.data.toList 4 7) = n := ⟨_, rfl⟩
          rw [hn1] at HN CI1 CM I
          rw [hn2] at HN CI2 CM I
          rw [← HN.out] at CM
          clear HR hn1 hn2
          simp only [Option.getD_some, Option.isSome_some] at C1 C2 l2
          unfold PairPost at CM
          go_enter Tryz.func32, Tryz.ntmps32
          go_wp2_with fail
          refine (C1.out w).mono ?_
          rintro e w1 ⟨rfl, hw1⟩
          replace hw1 := hw1.symm
          subst hw1
          go_wp2_with fail
          refine (C2.out w).mono ?_
          rintro e w1 ⟨rfl, hw1⟩
          replace hw1 := hw1.symm
          subst hw1
          go_wp2
          go_region_held3 (fun _ => True) (exact trivial) (first
            | (go_simp
               go_at_call 49
               (with_reducible refine Calls.mono (days_row _) ?_)
               rintro e x1 ⟨rfl, hx1⟩
               have hr1 : RowAt x1 w.heap.size day3L := hx1.out.1)
            | (go_simp
               go_at_call 63
               (with_reducible refine Calls.mono (CI1.out _ _ hr1) ?_)
               rintro e x2 ⟨rfl, hx2⟩
               replace hx2 := hx2.symm
               subst hx2)
            | (go_simp
               go_at_call 51
               (with_reducible refine Calls.mono (months_row _) ?_)
               rintro e x3 ⟨rfl, hx3⟩
               have hr3 := hx3.out.1)
            | (go_simp
               go_at_call 63
               (with_reducible refine Calls.mono (CI2.out _ _ hr3) ?_)
               rintro e x4 ⟨rfl, hx4⟩
               replace hx4 := hx4.symm
               subst hx4)
            | (go_simp
               go_at_call 62
               (with_reducible refine Calls.mono (CM.out _) ?_)
               rintro e x5 ⟨rfl, hx5⟩)
            | fail)
          have hf1 : Below w.heap.size w x1 := (Below.drew (Below.refl _ _)).trans hx1.out.2
          have hf3 := hf1.trans (hx3.out.2.mono hf1.size)
          have HF := Lib.hid (hf3.trans (hx5.mono hf3.size))
          clear hf1 hf3 hx5 hr1 hr3
          go_wp2
          go_ret2
          exact ⟨rfl, HF.out⟩
end Go.Proofs.YtkbcklaloblmeaaGreatDoor
