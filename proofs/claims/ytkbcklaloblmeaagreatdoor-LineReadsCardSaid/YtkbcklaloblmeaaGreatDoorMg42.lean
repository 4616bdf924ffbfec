/-
  The reference's Parse, of the second form, or of none.
-/
import Derived.Test.YtkbcklaloblmeaaGreatDoorMg16
namespace Go.Proofs.YtkbcklaloblmeaaGreatDoor
open Go.RowKit DateMath

theorem split_to {l d r : Bs} (h : l = d ++ 44 :: 32 :: r) (hr : r.length = 22) : l.length = d.length + 24 ∧ sl l 0 d.length = d ∧ sl l d.length (d.length + 2) = [44, 32] := by
  subst h
  refine ⟨by simp [hr], ?_, ?_⟩
  · unfold sl
    simp
  · have := sl_app d (44 :: 32 :: r) 0 2
    rw [Nat.add_zero] at this
    rw [this]
    rfl
theorem split_of {l d : Bs} (h1 : l.length = d.length + 24) (h2 : sl l 0 d.length = d) (h3 : sl l d.length (d.length + 2) = [44, 32]) : l = d ++ 44 :: 32 :: l.drop (d.length + 2) ∧ (l.drop (d.length + 2)).length = 22 := by
  refine ⟨?_, by rw [List.length_drop]; omega⟩
  unfold sl at h2 h3
  rw [List.drop_zero, Nat.sub_zero] at h2
  rw [show d.length + 2 - d.length = 2 by omega] at h3
  have e1 : l = l.take d.length ++ l.drop d.length := (List.take_append_drop _ _).symm
  have e2 : l.drop d.length = (l.drop d.length).take 2 ++ (l.drop d.length).drop 2 := (List.take_append_drop _ _).symm
  rw [h3, List.drop_drop] at e2
  rw [h2, e2] at e1
  exact e1
theorem row_getL {w : World} {g : Nat} {L : List Bs} (h : RowAt w g L) (k : Nat) (hk : k < L.length) : w.cell? ⟨g, k, none⟩ = some (.string (arrD (L.getD k []))) := by
  rw [row_cells h k hk, List.getD_eq_getElem?_getD, List.getElem?_eq_getElem hk]
  rfl
theorem day_len (k : Nat) (hk : k ≤ 6) : 6 ≤ (dayL.getD k []).length ∧ (dayL.getD k []).length ≤ 9 := by
  have key : ∀ k : Nat, k ≤ 6 → 6 ≤ (dayL.getD k []).length ∧ (dayL.getD k []).length ≤ 9 := by decide
  exact key k hk
theorem beq_dec (a b : Bs) : (a == b) = decide (a = b) := by
  by_cases h : a = b
  · subst h; simp
  · rw [decide_eq_false h]; simpa using h
theorem ne45 (s : ByteArray) (i : Nat) (h : i < s.size) (r : Bs) (hr : s.data.toList = r) : ((s[i].toNat : Int) != 45) = !decide (r.getD i 0 = 45) := by
  have := eq32 s[i] 45
  rw [show ((45 : UInt8).toNat : Int) = 45 from rfl] at this
  show (!((s[i].toNat : Int) == 45)) = _
  rw [this, get_u8 h, hr]
theorem ne32 (s : ByteArray) (i : Nat) (h : i < s.size) (r : Bs) (hr : s.data.toList = r) : ((s[i].toNat : Int) != 32) = !decide (r.getD i 0 = 32) := by
  have := eq32 s[i] 32
  rw [show ((32 : UInt8).toNat : Int) = 32 from rfl] at this
  show (!((s[i].toNat : Int) == 32)) = _
  rw [this, get_u8 h, hr]
set_option maxRecDepth 100000 in
set_option maxHeartbeats 40000000 in
theorem refParse_rest (s : ByteArray) (w : World) (_hsz : s.size ≤ 140737488351232) (h29 : ¬ s.size = 29) (h24 : ¬ s.size = 24) : Calls Tryz.prog 32 #[.string s] w (PairPost (readF s.data.toList) w) := by
  have hll : s.data.toList.length = s.size := by simp
  have hp : ¬ sepP s.data.toList := fun h => h29 (by have := h.1; omega)
  have ho : ¬ sepO s.data.toList := fun h => h24 (by have := h.1; omega)
  have HNONE := Lib.hid (ref_none s.data.toList hp ho)
  have e29 : (((s.size : Nat) : Int) == 29) = false := by simpa using (by omega : ¬ (s.size : Int) = 29)
  have e24 : (((s.size : Nat) : Int) == 24) = false := by simpa using (by omega : ¬ (s.size : Int) = 24)
  have HLL := Lib.hid hll
  obtain ⟨l, hl⟩ : ∃ l, s.data.toList = l := ⟨_, rfl⟩
  have HL := Lib.hid hl
  rw [hl] at HNONE HLL ⊢
  clear hp ho h29 h24 hll hl
  unfold PairPost
  go_enter Tryz.func32, Tryz.ntmps32
  go_wp2
  go_loopw [13] (fun i wr => ∃ k : Nat, k ≤ 7 ∧ i = .int .i64 k ∧ Hid (Below w.heap.size w wr) ∧ Hid (∀ j, j < k → ¬ ∃ r : Bs, l = dayL.getD j [] ++ 44 :: 32 :: r ∧ r.length = 22)) (fun i _ => 7 - (intOf i).toNat)
  case atStart => exact ⟨0, Nat.zero_le _, rfl, Lib.hid (Below.refl _ _), Lib.hid (fun j h => absurd h (Nat.not_lt_zero _))⟩
  case round =>
    obtain ⟨k, hk, rfl, HB, HNO⟩ := hrel
    by_cases hlt : k < 7
    · have i1 : (k : Int) < 7 := by omega
      have CLG := Lib.hid (longs_row wr)
      have hdl := day_len k (by omega)
      obtain ⟨D, hD⟩ : ∃ x, arrD (dayL.getD k []) = x := ⟨_, rfl⟩
      have zD : D.size = (dayL.getD k []).length := arr_len hD
      have RD := Lib.hid (fun (x : World) (h : RowAt x wr.heap.size dayL) => hD ▸ row_getL h k (by have : dayL.length = 7 := rfl; omega))
      have hnext : ¬ (s.size = D.size + 24 ∧ sl l 0 D.size = dayL.getD k [] ∧ sl l D.size (D.size + 2) = [44, 32]) → Hid (∀ j, j < k + 1 → ¬ ∃ r : Bs, l = dayL.getD j [] ++ 44 :: 32 :: r ∧ r.length = 22) := fun hx => Lib.hid (fun j hj ⟨r, hr1, hr2⟩ => by
        by_cases e : j = k
        · subst e
          have := split_to hr1 hr2
          rw [← zD] at this
          exact hx ⟨by rw [← HLL.out]; exact this.1, this.2.1, this.2.2⟩
        · exact HNO.out j (by omega) ⟨r, hr1, hr2⟩)
      have HNEXT := Lib.hid hnext
      have hzb : D.size ≤ 9 ∧ 6 ≤ D.size := by omega
      have hDl : D.toList = dayL.getD k [] := by rw [← hD, Lib.toList_data]; unfold arrD; simp
      have hcs : ¬ s.size = D.size + 24 ∨ (s.size = D.size + 24 ∧ ¬ sl l 0 D.size = dayL.getD k []) ∨ (s.size = D.size + 24 ∧ sl l 0 D.size = dayL.getD k [] ∧ ¬ sl l D.size (D.size + 2) = [44, 32]) ∨ (s.size = D.size + 24 ∧ sl l 0 D.size = dayL.getD k [] ∧ sl l D.size (D.size + 2) = [44, 32]) := by
        by_cases a1 : s.size = D.size + 24
        · by_cases a2 : sl l 0 D.size = dayL.getD k []
          · by_cases a3 : sl l D.size (D.size + 2) = [44, 32]
            · exact .inr (.inr (.inr ⟨a1, a2, a3⟩))
            · exact .inr (.inr (.inl ⟨a1, a2, a3⟩))
          · exact .inr (.inl ⟨a1, a2⟩)
        · exact .inl a1
      rcases hcs with a1 | ⟨a1, a2⟩ | ⟨a1, a2, a3⟩ | ⟨a1, a2, a3⟩
      · have e1 : (((s.size : Nat) : Int) == (D.size : Int) + 24) = false := by simpa using (by omega : ¬ (s.size : Int) = (D.size : Int) + 24)
        have HNX := HNEXT.out (fun h => a1 h.1)
        clear a1 hnext HNEXT hD zD hdl hDl HNO
        go_wp2_with fail
        refine CLG.out.mono ?_
        rintro e x1 ⟨rfl, hx1⟩
        have cd := RD.out x1 hx1.out.1
        have HB1 := Lib.hid (HB.out.trans (hx1.out.2.mono HB.out.size))
        go_wp2
        go_roundw
        case rel => exact ⟨k + 1, by omega, by go_num, HB1, HNX⟩
        case measure => simp [intOf]; omega
      · have e1 : (((s.size : Nat) : Int) == (D.size : Int) + 24) = true := by simpa using (by omega : (s.size : Int) = (D.size : Int) + 24)
        have t2 : ((s.extract 0 D.size).toList == D.toList) = false := by rw [ext_list, HL.out, hDl]; simpa using a2
        have HNX := HNEXT.out (fun h => a2 h.2.1)
        have n1 : (D.size : Int) ≤ (s.size : Int) := by omega
        clear a1 a2 hnext HNEXT hD zD hdl hDl HNO
        go_wp2_with fail
        refine CLG.out.mono ?_
        rintro e x1 ⟨rfl, hx1⟩
        have cd := RD.out x1 hx1.out.1
        have HB1 := Lib.hid (HB.out.trans (hx1.out.2.mono HB.out.size))
        go_wp2
        go_roundw
        case rel => exact ⟨k + 1, by omega, by go_num, HB1, HNX⟩
        case measure => simp [intOf]; omega
      · have e1 : (((s.size : Nat) : Int) == (D.size : Int) + 24) = true := by simpa using (by omega : (s.size : Int) = (D.size : Int) + 24)
        have t2 : ((s.extract 0 D.size).toList == D.toList) = true := by rw [ext_list, HL.out, hDl]; rw [a2]; exact beq_self_eq_true _
        have t3 : ((s.extract D.size (D.size + 2)).toList == [44, 32]) = false := by rw [ext_list, HL.out]; simpa using a3
        have HNX := HNEXT.out (fun h => a3 h.2.2)
        have n1 : (D.size : Int) ≤ (s.size : Int) := by omega
        have n2 : (D.size : Int) + 2 ≤ (s.size : Int) := by omega
        clear a1 a2 a3 hnext HNEXT hD zD hdl hDl HNO
        go_wp2_with fail
        refine CLG.out.mono ?_
        rintro e x1 ⟨rfl, hx1⟩
        have cd := RD.out x1 hx1.out.1
        have HB1 := Lib.hid (HB.out.trans (hx1.out.2.mono HB.out.size))
        go_wp2
        go_roundw
        case rel => exact ⟨k + 1, by omega, by go_num, HB1, HNX⟩
        case measure => simp [intOf]; omega
      · have e1 : (((s.size : Nat) : Int) == (D.size : Int) + 24) = true := by simpa using (by omega : (s.size : Int) = (D.size : Int) + 24)
        have t2 : ((s.extract 0 D.size).toList == D.toList) = true := by rw [ext_list, HL.out, hDl]; rw [a2]; exact beq_self_eq_true _
        have t3 : ((s.extract D.size (D.size + 2)).toList == [44, 32]) = true := by rw [ext_list, HL.out]; rw [a3]; exact beq_self_eq_true _
        have n1 : (D.size : Int) ≤ (s.size : Int) := by omega
        have n2 : (D.size : Int) + 2 ≤ (s.size : Int) := by omega
        obtain ⟨hsp, hrl⟩ := split_of (l := l) (d := dayL.getD k []) (by rw [HLL.out, a1, zD]) (by rw [← zD]; exact a2) (by rw [← zD]; exact a3)
        rw [← zD] at hsp hrl
        have yR : (s.extract (D.size + 2) s.size).data.toList = l.drop (D.size + 2) := by rw [Lib.extract_to_end, HL.out]
        obtain ⟨RR, hRR⟩ : ∃ x, s.extract (D.size + 2) s.size = x := ⟨_, rfl⟩
        rw [hRR] at yR
        obtain ⟨r, hr⟩ : ∃ r, l.drop (D.size + 2) = r := ⟨_, rfl⟩
        rw [hr] at hsp hrl yR
        have HQ := Lib.hid (ref_long k (by omega) r hrl)
        rw [← hsp] at HQ
        have zR : RR.size = 22 := by have e : RR.data.toList.length = RR.size := by simp
                                     rw [← e, yR]; exact hrl
        have zR' : 22 ≤ RR.size := by omega
        have x1 : (RR.extract 0 2).data.toList = sl r 0 2 := by rw [Lib.extract_data, yR]; rfl
        have x2 : (RR.extract 7 9).data.toList = sl r 7 9 := by rw [Lib.extract_data, yR]; rfl
        have x4 : (RR.extract 3 6).data.toList = sl r 3 6 := by rw [Lib.extract_data, yR]; rfl
        have x5 : (RR.extract 10 18).data.toList = sl r 10 18 := by rw [Lib.extract_data, yR]; rfl
        have x6 : (RR.extract 18 RR.size).toList = sl r 18 22 := by rw [ext_list, yR, zR]
        obtain ⟨S1, h1⟩ : ∃ x, RR.extract 0 2 = x := ⟨_, rfl⟩
        obtain ⟨S2, h2⟩ : ∃ x, RR.extract 7 9 = x := ⟨_, rfl⟩
        obtain ⟨S4, h4⟩ : ∃ x, RR.extract 3 6 = x := ⟨_, rfl⟩
        obtain ⟨S5, h5⟩ : ∃ x, RR.extract 10 18 = x := ⟨_, rfl⟩
        obtain ⟨S6, h6⟩ : ∃ x, RR.extract 18 RR.size = x := ⟨_, rfl⟩
        have z1 : S1.size ≤ 4 := by rw [← h1, ByteArray.size_extract]; omega
        have z2 : S2.size ≤ 4 := by rw [← h2, ByteArray.size_extract]; omega
        have z5 : S5.size = 8 := by rw [← h5, ByteArray.size_extract]; omega
        rw [h1] at x1
        rw [h2] at x2
        rw [h4] at x4
        rw [h5] at x5
        rw [h6] at x6
        have D1 := fun x => refDigits_any S1 x z1
        have D2 := fun x => refDigits_any S2 x z2
        unfold numV at D1 D2
        rw [x1] at D1
        rw [x2] at D2
        have l1 := num_le4 (sl r 0 2)
        have l2 : (numF (sl r 7 9) 4).getD 0 ≤ 99 := val_two (by unfold sl; rw [List.length_take, List.length_drop]; omega)
        have i3 := idx_lt monL (sl r 3 6)
        have i4 := idx_ge monL (sl r 3 6)
        have e12 : monL.length = 12 := rfl
        obtain ⟨o1, ho1⟩ : ∃ o, numF (sl r 0 2) 4 = o := ⟨_, rfl⟩
        obtain ⟨o2, ho2⟩ : ∃ o, numF (sl r 7 9) 4 = o := ⟨_, rfl⟩
        rw [ho1] at D1 l1 HQ
        rw [ho2] at D2 l2 HQ
        obtain ⟨R, hR⟩ : ∃ R, readF l = R := ⟨_, rfl⟩
        rw [hR] at HQ
        have C1 := Lib.hid D1
        have C2 := Lib.hid D2
        have X4 := Lib.hid x4
        have X5 := Lib.hid x5
        have Z5 := Lib.hid z5
        have I := Lib.hid (show -1 ≤ idxF monL (sl r 3 6) ∧ idxF monL (sl r 3 6) ≤ 11 from ⟨i4, by omega⟩)
        have hk6 : k ≤ 6 := by omega
        have HRe := Lib.hid hR
        have g2 : (2 : Int) ≤ (RR.size : Int) := by omega
        have g9 : (9 : Int) ≤ (RR.size : Int) := by omega
        have g6 : (6 : Int) ≤ (RR.size : Int) := by omega
        have g18 : (18 : Int) ≤ (RR.size : Int) := by omega
        have v2 : (((RR[2]'(Nat.lt_of_lt_of_le (by decide) zR')).toNat : Int) != 45) = !decide (r.getD 2 0 = 45) := ne45 RR 2 (Nat.lt_of_lt_of_le (by decide) zR') r yR
        have v6 : (((RR[6]'(Nat.lt_of_lt_of_le (by decide) zR')).toNat : Int) != 45) = !decide (r.getD 6 0 = 45) := ne45 RR 6 (Nat.lt_of_lt_of_le (by decide) zR') r yR
        have v9 : (((RR[9]'(Nat.lt_of_lt_of_le (by decide) zR')).toNat : Int) != 32) = !decide (r.getD 9 0 = 32) := ne32 RR 9 (Nat.lt_of_lt_of_le (by decide) zR') r yR
        have v18 : (!S6.toList == [32, 71, 77, 84]) = !decide (sl r 18 22 = [32, 71, 77, 84]) := by rw [x6, beq_dec]
        have HX6 := Lib.hid x6
        have HZR := Lib.hid zR
        have HYR := Lib.hid yR
        clear a1 a2 a3 hnext HNEXT hD zD hdl hDl HNO D1 D2 x1 x2 x4 x5 x6 z1 z2 z5 i3 i4 e12 ho1 ho2 hR hr hrl hsp zR yR
        cases o1 with
        | none =>
          have HN : Hid (R = (0, 80)) := Lib.hid (by rw [← HQ.out])
          clear HQ v2 v6 v9 v18
          go_wp2_with fail
          refine CLG.out.mono ?_
          rintro e x1 ⟨rfl, hx1⟩
          have cd := RD.out x1 hx1.out.1
          have HB1 := Lib.hid (HB.out.trans (hx1.out.2.mono HB.out.size))
          go_wp2_with fail
          refine (C1.out x1).mono ?_
          rintro e u1 ⟨rfl, hu1⟩
          replace hu1 := hu1.symm
          subst hu1
          go_wp2_with fail
          refine (C2.out x1).mono ?_
          rintro e u1 ⟨rfl, hu1⟩
          replace hu1 := hu1.symm
          subst hu1
          go_wp2
          go_ret2
          exact ⟨by rw [HRe.out, HN.out]; rfl, HB1.out⟩
        | some d =>
          cases o2 with
          | none =>
            have HN : Hid (R = (0, 80)) := Lib.hid (by rw [← HQ.out])
            clear HQ v2 v6 v9 v18
            go_wp2_with fail
            refine CLG.out.mono ?_
            rintro e x1 ⟨rfl, hx1⟩
            have cd := RD.out x1 hx1.out.1
            have HB1 := Lib.hid (HB.out.trans (hx1.out.2.mono HB.out.size))
            go_wp2_with fail
            refine (C1.out x1).mono ?_
            rintro e u1 ⟨rfl, hu1⟩
            replace hu1 := hu1.symm
            subst hu1
            go_wp2_with fail
            refine (C2.out x1).mono ?_
            rintro e u1 ⟨rfl, hu1⟩
            replace hu1 := hu1.symm
            subst hu1
            go_wp2
            go_ret2
            exact ⟨by rw [HRe.out, HN.out]; rfl, HB1.out⟩
          | some y =>
            have HS : Hid (R = if r.getD 2 0 = 45 ∧ r.getD 6 0 = 45 ∧ r.getD 9 0 = 32 ∧ sl r 18 22 = [32, 71, 77, 84] then madeF k (year2 y) (idxF monL (sl r 3 6)) d (sl r 10 18) else (0, 80)) := Lib.hid (by rw [← HQ.out])
            clear HQ
            simp only [Option.getD_some, Option.isSome_some] at C1 C2 l1 l2
            by_cases c2 : r.getD 2 0 = 45
            rotate_left
            · have HN : Hid (R = (0, 80)) := Lib.hid (by rw [HS.out, if_neg (fun h => c2 h.1)])
              rw [decide_eq_false c2] at v2
              simp only [Bool.not_false] at v2
              clear v6 v9 v18
              clear HS
              go_wp2_with fail
              refine CLG.out.mono ?_
              rintro e x1 ⟨rfl, hx1⟩
              have cd := RD.out x1 hx1.out.1
              have HB1 := Lib.hid (HB.out.trans (hx1.out.2.mono HB.out.size))
              go_wp2_with fail
              refine (C1.out x1).mono ?_
              rintro e u1 ⟨rfl, hu1⟩
              replace hu1 := hu1.symm
              subst hu1
              go_wp2_with fail
              refine (C2.out x1).mono ?_
              rintro e u1 ⟨rfl, hu1⟩
              replace hu1 := hu1.symm
              subst hu1
              go_wp2
              go_ret2
              exact ⟨by rw [HRe.out, HN.out]; rfl, HB1.out⟩
            rw [decide_eq_true c2] at v2
            simp only [Bool.not_true] at v2
            by_cases c6 : r.getD 6 0 = 45
            rotate_left
            · have HN : Hid (R = (0, 80)) := Lib.hid (by rw [HS.out, if_neg (fun h => c6 h.2.1)])
              rw [decide_eq_false c6] at v6
              simp only [Bool.not_false] at v6
              clear v9 v18
              clear HS
              go_wp2_with fail
              refine CLG.out.mono ?_
              rintro e x1 ⟨rfl, hx1⟩
              have cd := RD.out x1 hx1.out.1
              have HB1 := Lib.hid (HB.out.trans (hx1.out.2.mono HB.out.size))
              go_wp2_with fail
              refine (C1.out x1).mono ?_
              rintro e u1 ⟨rfl, hu1⟩
              replace hu1 := hu1.symm
              subst hu1
              go_wp2_with fail
              refine (C2.out x1).mono ?_
              rintro e u1 ⟨rfl, hu1⟩
              replace hu1 := hu1.symm
              subst hu1
              go_wp2
              go_ret2
              exact ⟨by rw [HRe.out, HN.out]; rfl, HB1.out⟩
            rw [decide_eq_true c6] at v6
            simp only [Bool.not_true] at v6
            by_cases c9 : r.getD 9 0 = 32
            rotate_left
            · have HN : Hid (R = (0, 80)) := Lib.hid (by rw [HS.out, if_neg (fun h => c9 h.2.2.1)])
              rw [decide_eq_false c9] at v9
              simp only [Bool.not_false] at v9
              clear v18
              clear HS
              go_wp2_with fail
              refine CLG.out.mono ?_
              rintro e x1 ⟨rfl, hx1⟩
              have cd := RD.out x1 hx1.out.1
              have HB1 := Lib.hid (HB.out.trans (hx1.out.2.mono HB.out.size))
              go_wp2_with fail
              refine (C1.out x1).mono ?_
              rintro e u1 ⟨rfl, hu1⟩
              replace hu1 := hu1.symm
              subst hu1
              go_wp2_with fail
              refine (C2.out x1).mono ?_
              rintro e u1 ⟨rfl, hu1⟩
              replace hu1 := hu1.symm
              subst hu1
              go_wp2
              go_ret2
              exact ⟨by rw [HRe.out, HN.out]; rfl, HB1.out⟩
            rw [decide_eq_true c9] at v9
            simp only [Bool.not_true] at v9
            by_cases c18 : sl r 18 22 = [32, 71, 77, 84]
            rotate_left
            · have HN : Hid (R = (0, 80)) := Lib.hid (by rw [HS.out, if_neg (fun h => c18 h.2.2.2)])
              rw [decide_eq_false c18] at v18
              simp only [Bool.not_false] at v18
              have v18b : (S6.toList == [32, 71, 77, 84]) = false := by simpa using v18
              clear HS
              go_wp2_with fail
              refine CLG.out.mono ?_
              rintro e x1 ⟨rfl, hx1⟩
              have cd := RD.out x1 hx1.out.1
              have HB1 := Lib.hid (HB.out.trans (hx1.out.2.mono HB.out.size))
              go_wp2_with fail
              refine (C1.out x1).mono ?_
              rintro e u1 ⟨rfl, hu1⟩
              replace hu1 := hu1.symm
              subst hu1
              go_wp2_with fail
              refine (C2.out x1).mono ?_
              rintro e u1 ⟨rfl, hu1⟩
              replace hu1 := hu1.symm
              subst hu1
              go_wp2
              go_ret2
              exact ⟨by rw [HRe.out, HN.out]; rfl, HB1.out⟩
            rw [decide_eq_true c18] at v18
            simp only [Bool.not_true] at v18
            have v18b : (S6.toList == [32, 71, 77, 84]) = true := by simpa using v18
            have HN : Hid (R = madeF k (year2 y) (idxF monL (sl r 3 6)) d (sl r 10 18)) := Lib.hid (by rw [HS.out, if_pos ⟨c2, c6, c9, c18⟩])
            have hyb : year2 y ≤ 9999 := by unfold year2; split <;> omega
            have CI2 : Hid (∀ (x : World) (g : Nat), RowAt x g monL → Calls Tryz.prog 63 #[.slice (some ⟨g, 0, none⟩) 12 12, .string S4] x fun e w' => e = .returned (.int .i64 (idxF monL (sl r 3 6))) ∧ w' = x) := Lib.hid (fun x g h => by rw [← X4.out]; exact index_row h (by decide) 12 rfl S4)
            have CM : Hid (∀ (x : World), Calls Tryz.prog 62 #[.int .i64 (k : Int), .int .i64 (year2 y : Nat), .int .i64 (idxF monL (sl r 3 6)), .int .i64 d, .string S5] x (PairPost (madeF k (year2 y) (idxF monL (sl r 3 6)) d (sl r 10 18)) x)) := Lib.hid (fun x => by rw [← X5.out]; exact refMade_any k (year2 y) (idxF monL (sl r 3 6)) d S5 x (by omega) (by omega) hyb I.out.1 I.out.2 l1 Z5.out)
            obtain ⟨n2, hn2⟩ : ∃ n, idxF monL (sl r 3 6) = n := ⟨_, rfl⟩
            rw [hn2] at HN CI2 CM I
            rw [← HN.out] at CM
            clear HS hn2 c2 c6 c9 c18 hyb
            unfold PairPost at CM
            by_cases h70 : 70 ≤ y
            · have hyl : ((year2 y : Nat) : Int) = (y : Int) + 1900 := by unfold year2; rw [if_pos h70]; omega
              rw [hyl] at CM
              have d70 : decide (70 ≤ (y : Int)) = true := decide_eq_true (by omega)
              have d70n : decide (70 ≤ y) = true := decide_eq_true h70
              clear hyl h70
              go_wp2_with fail
              refine CLG.out.mono ?_
              rintro e x1 ⟨rfl, hx1⟩
              have cd := RD.out x1 hx1.out.1
              have HB1 := Lib.hid (HB.out.trans (hx1.out.2.mono HB.out.size))
              go_wp2_with fail
              refine (C1.out x1).mono ?_
              rintro e u1 ⟨rfl, hu1⟩
              replace hu1 := hu1.symm
              subst hu1
              go_wp2_with fail
              refine (C2.out x1).mono ?_
              rintro e u1 ⟨rfl, hu1⟩
              replace hu1 := hu1.symm
              subst hu1
              go_wp2
              go_region_held3 (fun _ => True) (exact trivial) (first
                | (go_simp
                   go_at_call 51
                   (with_reducible refine Calls.mono (months_row _) ?_)
                   rintro e x3 ⟨rfl, hx3⟩
                   have hr3 : RowAt x3 x1.heap.size monL := hx3.out.1)
                | (go_simp
                   go_at_call 63
                   (with_reducible refine Calls.mono (CI2.out _ _ hr3) ?_)
                   rintro e x4 ⟨rfl, hx4⟩
                   replace hx4 := hx4.symm
                   subst hx4)
                | (go_simp
                   go_at_call 62
                   (with_reducible refine Calls.mono (CM.out _) ?_)
                   rintro e x5 ⟨rfl, hx5⟩)
                | fail)
              have hf1 : Below w.heap.size w x3 := HB1.out.trans ((((Below.drew (Below.refl _ _)).trans hx3.out.2) : Below x1.heap.size x1 x3).mono HB1.out.size)
              have HF := Lib.hid (hf1.trans (hx5.mono hf1.size))
              clear hf1 hx5 hr3
              go_wp2
              go_ret2
              exact ⟨by rw [HRe.out]; rfl, HF.out⟩
            · have hyl : ((year2 y : Nat) : Int) = (y : Int) + 2000 := by unfold year2; rw [if_neg h70]; omega
              rw [hyl] at CM
              have d70 : decide (70 ≤ (y : Int)) = false := decide_eq_false (by omega)
              have d70n : decide (70 ≤ y) = false := decide_eq_false h70
              clear hyl h70
              go_wp2_with fail
              refine CLG.out.mono ?_
              rintro e x1 ⟨rfl, hx1⟩
              have cd := RD.out x1 hx1.out.1
              have HB1 := Lib.hid (HB.out.trans (hx1.out.2.mono HB.out.size))
              go_wp2_with fail
              refine (C1.out x1).mono ?_
              rintro e u1 ⟨rfl, hu1⟩
              replace hu1 := hu1.symm
              subst hu1
              go_wp2_with fail
              refine (C2.out x1).mono ?_
              rintro e u1 ⟨rfl, hu1⟩
              replace hu1 := hu1.symm
              subst hu1
              go_wp2
              go_region_held3 (fun _ => True) (exact trivial) (first
                | (go_simp
                   go_at_call 51
                   (with_reducible refine Calls.mono (months_row _) ?_)
                   rintro e x3 ⟨rfl, hx3⟩
                   have hr3 : RowAt x3 x1.heap.size monL := hx3.out.1)
                | (go_simp
                   go_at_call 63
                   (with_reducible refine Calls.mono (CI2.out _ _ hr3) ?_)
                   rintro e x4 ⟨rfl, hx4⟩
                   replace hx4 := hx4.symm
                   subst hx4)
                | (go_simp
                   go_at_call 62
                   (with_reducible refine Calls.mono (CM.out _) ?_)
                   rintro e x5 ⟨rfl, hx5⟩)
                | fail)
              have hf1 : Below w.heap.size w x3 := HB1.out.trans ((((Below.drew (Below.refl _ _)).trans hx3.out.2) : Below x1.heap.size x1 x3).mono HB1.out.size)
              have HF := Lib.hid (hf1.trans (hx5.mono hf1.size))
              clear hf1 hx5 hr3
              go_wp2
              go_ret2
              exact ⟨by rw [HRe.out]; rfl, HF.out⟩
    · obtain rfl : k = 7 := by omega
      have HN := Lib.hid (HNONE.out (fun j hj => HNO.out j (by omega)))
      go_wp2
      go_ret2
      exact ⟨by rw [HN.out]; rfl, HB.out⟩
end Go.Proofs.YtkbcklaloblmeaaGreatDoor
