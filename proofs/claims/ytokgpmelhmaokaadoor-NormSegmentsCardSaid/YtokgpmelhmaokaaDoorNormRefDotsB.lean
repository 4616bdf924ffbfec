/-
  The reference's Dots for a path with a slash ahead.
-/
import Derived.Test.YtokgpmelhmaokaaDoorNormRefDots
namespace Go.Proofs.YtokgpmelhmaokaaDoor
open Go.RowKit HeadMath NormMath

set_option maxHeartbeats 16000000 in
theorem refDots_slash (s : ByteArray) (w : World) (hs : s.size ≤ 1000000) (h0 : 0 < s.size) (hc : s[0] = 47) :
    Calls Tryd.prog 15 #[.string s] w fun e w' => e = .returned (.string ⟨(dotsF s.data.toList).toArray⟩) ∧ Below w.heap.size w w' := by
  have q : ((s[0].toNat : Int) == 47) = true := (u8_beq_lit _ 47 (by decide)).trans (by simpa using hc)
  have q0 : s.toList.isEmpty = false := by
    rw [Lib.toList_data]
    cases h : s.data.toList with
    | nil => have := size_list s; rw [h] at this; simp at this; omega
    | cons a b => rfl
  have q1 : (s.toList == []) = false := by
    cases h : s.toList with
    | nil => rw [h] at q0; simp at q0
    | cons a b => rfl
  have HL : Hid (dotsF s.data.toList = dotsL (splitS (s.data.toList.drop 1))) := Lib.hid (strip_slash h0 hc)
  have hPs : 1 ≤ s.size := h0
  have hPm : s.size ≤ 1000001 := by omega
  clear hc
  obtain ⟨L, hL⟩ : ∃ L, splitS (s.data.toList.drop 1) = L := ⟨_, rfl⟩
  rw [hL] at HL
  have H1 : Hid (DotsInv s L 1 1 [] false) := Lib.hid (.inl ⟨[], by rw [← hL]; exact Scan.start (by rw [size_list]; exact hPs), rfl, rfl, by simp⟩)
  clear hL
  go_enter Tryd.func15, Tryd.ntmps15
  go_wp2
  simp only [show ((s[0].toNat : Int) != 47) = false from by rw [bne, q]; rfl]
  clear q q0 q1
  go_loopw [3, 4, 5, 6] (fun o en fr i wr => ∃ (k f : Nat) (R : List ByteArray) (ed : Bool), 1 ≤ k ∧ k ≤ s.size + 1 ∧ i = .int .i64 k ∧ fr = .int .i64 f ∧ en = .bool ed ∧ Hid (DotsInv s L f k R ed) ∧ Hid (RowS w.heap.size wr o R) ∧ Hid (R.length ≤ k) ∧ Hid (SmallR R) ∧ Hid (Spares (atLeast w.heap.size) w wr))
    (fun _ _ _ i _ => s.size + 1 - (intOf i).toNat)
  case atStart => exact ⟨1, 1, [], false, Nat.le_refl _, by omega, rfl, rfl, rfl, H1, Lib.hid (rowS_nil _ _), Lib.hid (by simp), Lib.hid smallR_nil, Lib.hid (Spares.refl _ _)⟩
  clear H1
  case round =>
    obtain ⟨k, f, R, ed, hk1, hk2, rfl, rfl, rfl, HI, HR, HRL, HM, HS⟩ := hrel
    have hB1 := HS.out.size
    by_cases hle : k ≤ s.size
    · obtain ⟨rfl, hfk⟩ := dots_end HI.out hle
      by_cases hlt : k < s.size
      · by_cases hc : s[k] = 47
        · have q : ((s[k].toNat : Int) == 47) = true := (u8_beq_lit _ 47 (by decide)).trans (by simpa using hc)
          have hkp : ((k : Int) == (s.size : Int)) = false := by simp; omega
          obtain ⟨u, hx⟩ : ∃ u, s.extract f k = u := ⟨_, rfl⟩
          have hP1 : (s.extract f k).data.toList = u.data.toList := by rw [hx]
          by_cases z1 : u.data.toList = [46]
          · have hu := z1
            clear z1
            have y1 : (u.toList == [46]) = true := by rw [Lib.toList_data, hu]; rfl
            have y2 : (u.toList == [46, 46]) = false := by rw [Lib.toList_data, hu]; rfl
            have y3 : u.toList.isEmpty = false := by rw [Lib.toList_data, hu]; rfl
            have HN := Lib.hid (dots_cut (R' := R) HI.out hlt hc (by rw [hP1, hu, step_dot]))
            clear hP1 hu hc
            go_wp2
            go_roundw
            case rel => exact ⟨k + 1, k + 1, R, false, by omega, by omega, by go_num, by go_num, rfl, HN, HR, Lib.hid (by have := HRL.out; omega), HM, HS⟩
            case measure => simp [intOf]; omega
          · by_cases z2 : u.data.toList = [46, 46]
            · have hu := z2
              clear z1 z2
              rcases List.eq_nil_or_concat R with hR0 | ⟨R0, x, hRe⟩
              · have hR00 : R.length = 0 := by rw [hR0]; rfl
                rcases HR.out.shape with ⟨hv, _⟩ | ⟨g, c, hv, _, _, _, _⟩
                · subst hv
                  have y1 : (u.toList == [46]) = false := by rw [Lib.toList_data, hu]; rfl
                  have y2 : (u.toList == [46, 46]) = true := by rw [Lib.toList_data, hu]; rfl
                  have y3 : u.toList.isEmpty = false := by rw [Lib.toList_data, hu]; rfl
                  have HN := Lib.hid (dots_cut (R' := R) HI.out hlt hc (by rw [hP1, hu, step_up]; subst hR0; rfl))
                  clear hP1 hu hc
                  go_wp2
                  go_roundw
                  case rel => exact ⟨k + 1, k + 1, R, false, by omega, by omega, by go_num, by go_num, rfl, HN, HR, Lib.hid (by have := HRL.out; omega), HM, HS⟩
                  case measure => simp [intOf]; omega
                · rw [hR00] at hv
                  subst hv
                  have y1 : (u.toList == [46]) = false := by rw [Lib.toList_data, hu]; rfl
                  have y2 : (u.toList == [46, 46]) = true := by rw [Lib.toList_data, hu]; rfl
                  have y3 : u.toList.isEmpty = false := by rw [Lib.toList_data, hu]; rfl
                  have HN := Lib.hid (dots_cut (R' := R) HI.out hlt hc (by rw [hP1, hu, step_up]; subst hR0; rfl))
                  clear hP1 hu hc
                  go_wp2
                  go_roundw
                  case rel => exact ⟨k + 1, k + 1, R, false, by omega, by omega, by go_num, by go_num, rfl, HN, HR, Lib.hid (by have := HRL.out; omega), HM, HS⟩
                  case measure => simp [intOf]; omega
              · rw [List.concat_eq_append] at hRe
                subst hRe
                have hRd : datas R0 = (datas (R0 ++ [x])).dropLast := datas_pop R0 x
                rcases HR.out.shape with ⟨_, hv⟩ | ⟨g, c, hv, _, _, hcl, _⟩
                · simp at hv
                · rw [List.length_append, List.length_singleton] at hv hcl
                  subst hv
                  have hRL0 : R0.length ≤ 1000001 := by have := HRL.out; simp at this; omega
                  have hp0 : (0 : Int) < (R0.length : Int) + 1 := by omega
                  have hw0 : wrap64 (R0.length : Int) = (R0.length : Int) := by unfold wrap64; omega
                  have hc0 : (R0.length : Int) ≤ (c : Int) := by omega
                  have HRP := Lib.hid (HR.out.pop)
                  have y1 : (u.toList == [46]) = false := by rw [Lib.toList_data, hu]; rfl
                  have y2 : (u.toList == [46, 46]) = true := by rw [Lib.toList_data, hu]; rfl
                  have y3 : u.toList.isEmpty = false := by rw [Lib.toList_data, hu]; rfl
                  have HN := Lib.hid (dots_cut (R' := R0) HI.out hlt hc (by rw [hP1, hu, step_up]; exact hRd))
                  clear hP1 hu hc
                  go_wp2
                  go_roundw
                  case rel => exact ⟨k + 1, k + 1, R0, false, by omega, by omega, by go_num, by go_num, rfl, HN, HRP, Lib.hid (by have := HRL.out; simp at this; omega), Lib.hid HM.out.pop, HS⟩
                  case measure => simp [intOf]; omega
            · have HN := Lib.hid (dots_cut (R' := R ++ [u]) HI.out hlt hc (by rw [hP1, step_else _ z1 z2, datas_app]))
              have y1 : (u.toList == [46]) = false := by rw [Lib.toList_data]; simpa using z1
              have y2 : (u.toList == [46, 46]) = false := by rw [Lib.toList_data]; simpa using z2
              clear hP1 z1 z2 hc
              have HM9 := Lib.hid (HM.out.app hx hPm)
              have HRM : Hid (R.length + 1 ≤ 1000000000000) := Lib.hid (by have := HRL.out; omega)
              have HRL9 : Hid ((R ++ [u]).length ≤ k + 1) := Lib.hid (by have := HRL.out; simp; omega)
              go_wp2_with ((with_reducible show wpList _ _ _ (⟨some 53, _, _, _, _, _⟩ :: _) _ _); refine wpList_rowS_one rfl _ _ rfl w.heap.size _ R rfl HR.out u rfl HRM.out hB1 ?_; intro v9 w9 hr9 hs9; have HR9 := Lib.hid hr9; have HS9 := Lib.hid hs9; clear hr9 hs9)
              go_roundw
              case rel => exact ⟨k + 1, k + 1, R ++ [u], false, by omega, by omega, by go_num, by go_num, rfl, HN, HR9, HRL9, HM9, Lib.hid (HS.out.trans HS9.out)⟩
              case measure => simp [intOf]; omega
        · have q : ((s[k].toNat : Int) == 47) = false := (u8_beq_lit _ 47 (by decide)).trans (by simpa using hc)
          have HN := Lib.hid (dots_on HI.out hlt hc)
          have HRL2 : Hid (R.length ≤ k + 1) := Lib.hid (by have := HRL.out; omega)
          clear hc
          go_wp2
          go_roundw
          case rel => exact ⟨k + 1, f, R, false, by omega, by omega, by go_num, rfl, rfl, HN, HR, HRL2, HM, HS⟩
          case measure => simp [intOf]; omega
      · have HKE : Hid (k = s.size) := Lib.hid (by omega)
        have hkp : ((k : Int) == (s.size : Int)) = true := by simp; omega
        obtain ⟨u, hx⟩ : ∃ u, s.extract f k = u := ⟨_, rfl⟩
        by_cases z1 : u.data.toList = [46]
        · have hu := z1
          clear z1
          have y1 : (u.toList == [46]) = true := by rw [Lib.toList_data, hu]; rfl
          have y2 : (u.toList == [46, 46]) = false := by rw [Lib.toList_data, hu]; rfl
          have y3 : u.toList.isEmpty = false := by rw [Lib.toList_data, hu]; rfl
          have HN := Lib.hid (dots_more (f' := k + 1) (R' := R) (b := true) HI.out HKE.out hx (by rw [hu, if_neg (by decide), step_dot]) (by rw [hu]; rfl))
          clear hu
          go_wp2
          go_roundw
          case rel => exact ⟨k + 1, k + 1, R, true, by omega, by omega, by go_num, by go_num, rfl, HN, HR, Lib.hid (by have := HRL.out; omega), HM, HS⟩
          case measure => simp [intOf]; omega
        · by_cases z2 : u.data.toList = [46, 46]
          · have hu := z2
            clear z1 z2
            rcases List.eq_nil_or_concat R with hR0 | ⟨R0, x, hRe⟩
            · have hR00 : R.length = 0 := by rw [hR0]; rfl
              rcases HR.out.shape with ⟨hv, _⟩ | ⟨g, c, hv, _, _, _, _⟩
              · subst hv
                have y1 : (u.toList == [46]) = false := by rw [Lib.toList_data, hu]; rfl
                have y2 : (u.toList == [46, 46]) = true := by rw [Lib.toList_data, hu]; rfl
                have y3 : u.toList.isEmpty = false := by rw [Lib.toList_data, hu]; rfl
                have HN := Lib.hid (dots_more (f' := k + 1) (R' := R) (b := true) HI.out HKE.out hx (by rw [hu, if_neg (by decide), step_up]; subst hR0; rfl) (by rw [hu]; rfl))
                clear hu
                go_wp2
                go_roundw
                case rel => exact ⟨k + 1, k + 1, R, true, by omega, by omega, by go_num, by go_num, rfl, HN, HR, Lib.hid (by have := HRL.out; omega), HM, HS⟩
                case measure => simp [intOf]; omega
              · rw [hR00] at hv
                subst hv
                have y1 : (u.toList == [46]) = false := by rw [Lib.toList_data, hu]; rfl
                have y2 : (u.toList == [46, 46]) = true := by rw [Lib.toList_data, hu]; rfl
                have y3 : u.toList.isEmpty = false := by rw [Lib.toList_data, hu]; rfl
                have HN := Lib.hid (dots_more (f' := k + 1) (R' := R) (b := true) HI.out HKE.out hx (by rw [hu, if_neg (by decide), step_up]; subst hR0; rfl) (by rw [hu]; rfl))
                clear hu
                go_wp2
                go_roundw
                case rel => exact ⟨k + 1, k + 1, R, true, by omega, by omega, by go_num, by go_num, rfl, HN, HR, Lib.hid (by have := HRL.out; omega), HM, HS⟩
                case measure => simp [intOf]; omega
            · rw [List.concat_eq_append] at hRe
              subst hRe
              have hRd : datas R0 = (datas (R0 ++ [x])).dropLast := datas_pop R0 x
              rcases HR.out.shape with ⟨_, hv⟩ | ⟨g, c, hv, _, _, hcl, _⟩
              · simp at hv
              · rw [List.length_append, List.length_singleton] at hv hcl
                subst hv
                have hRL0 : R0.length ≤ 1000001 := by have := HRL.out; simp at this; omega
                have hp0 : (0 : Int) < (R0.length : Int) + 1 := by omega
                have hw0 : wrap64 (R0.length : Int) = (R0.length : Int) := by unfold wrap64; omega
                have hc0 : (R0.length : Int) ≤ (c : Int) := by omega
                have HRP := Lib.hid (HR.out.pop)
                have y1 : (u.toList == [46]) = false := by rw [Lib.toList_data, hu]; rfl
                have y2 : (u.toList == [46, 46]) = true := by rw [Lib.toList_data, hu]; rfl
                have y3 : u.toList.isEmpty = false := by rw [Lib.toList_data, hu]; rfl
                have HN := Lib.hid (dots_more (f' := k + 1) (R' := R0) (b := true) HI.out HKE.out hx (by rw [hu, if_neg (by decide), step_up]; exact hRd) (by rw [hu]; rfl))
                clear hu
                go_wp2
                go_roundw
                case rel => exact ⟨k + 1, k + 1, R0, true, by omega, by omega, by go_num, by go_num, rfl, HN, HRP, Lib.hid (by have := HRL.out; simp at this; omega), Lib.hid HM.out.pop, HS⟩
                case measure => simp [intOf]; omega
          · by_cases z3 : u.data.toList = []
            · have hu := z3
              clear z1 z2 z3
              have y1 : (u.toList == [46]) = false := by rw [Lib.toList_data, hu]; rfl
              have y2 : (u.toList == [46, 46]) = false := by rw [Lib.toList_data, hu]; rfl
              have y3 : u.toList.isEmpty = true := by rw [Lib.toList_data, hu]; rfl
              have y4 : (u.toList == []) = true := by rw [Lib.toList_data, hu]; rfl
              have HN := Lib.hid (dots_more (f' := k + 1) (R' := R) (b := true) HI.out HKE.out hx (by rw [if_pos hu]) (by rw [hu]; rfl))
              clear hu
              go_wp2
              go_roundw
              case rel => exact ⟨k + 1, k + 1, R, true, by omega, by omega, by go_num, by go_num, rfl, HN, HR, Lib.hid (by have := HRL.out; omega), HM, HS⟩
              case measure => simp [intOf]; omega
            · have HN := Lib.hid (dots_more (f' := k + 1) (R' := R ++ [u]) (b := false) HI.out HKE.out hx (by rw [if_neg z3, step_else _ z1 z2, datas_app]) (open_else z1 z2 z3))
              have y1 : (u.toList == [46]) = false := by rw [Lib.toList_data]; simpa using z1
              have y2 : (u.toList == [46, 46]) = false := by rw [Lib.toList_data]; simpa using z2
              have y3 : u.toList.isEmpty = false := by rw [Lib.toList_data]; simpa using z3
              have y4 : (u.toList == []) = false := by rw [Lib.toList_data]; simpa using z3
              clear z1 z2 z3
              have HM9 := Lib.hid (HM.out.app hx hPm)
              have HRM : Hid (R.length + 1 ≤ 1000000000000) := Lib.hid (by have := HRL.out; omega)
              have HRL9 : Hid ((R ++ [u]).length ≤ k + 1) := Lib.hid (by have := HRL.out; simp; omega)
              go_wp2_with ((with_reducible show wpList _ _ _ (⟨some 53, _, _, _, _, _⟩ :: _) _ _); refine wpList_rowS_one rfl _ _ rfl w.heap.size _ R rfl HR.out u rfl HRM.out hB1 ?_; intro v9 w9 hr9 hs9; have HR9 := Lib.hid hr9; have HS9 := Lib.hid hs9; clear hr9 hs9)
              go_roundw
              case rel => exact ⟨k + 1, k + 1, R ++ [u], false, by omega, by omega, by go_num, by go_num, rfl, HN, HR9, HRL9, HM9, Lib.hid (HS.out.trans HS9.out)⟩
              case measure => simp [intOf]; omega
    · have HBL := Lib.hid (row_below HS.out)
      have hke : ¬ k ≤ s.size := hle
      have hRn : R.length ≤ 1000002 := by have := HRL.out; omega
      rcases HR.out.shape with ⟨hv, hR0⟩ | ⟨g, c, hv, _, hg, hcl, hcells⟩
      · subst hv
        go_wp2
        go_loopw [9, 10] (fun t i wq => wq = wr ∧ i = .int .i64 0 ∧ t = .string ⟨#[]⟩) (fun _ _ _ => 0)
        case atStart => exact ⟨rfl, rfl, rfl⟩
        case round =>
          obtain ⟨rfl, rfl, rfl⟩ := hrel
          obtain ⟨T, hT⟩ : ∃ T, (⟨#[]⟩ : ByteArray) = T := ⟨_, rfl⟩
          have HT : Hid (T.data.toList = catF (R.take R.length)) := Lib.hid (by rw [← hT, hR0]; rfl)
          rw [hT]
          clear hT hR0 HR
          have hTz : T.size ≤ 1000004000004 := cat_small HM.out hRn (Nat.le_refl _) HT.out
          have HT2 : Hid (T.data.toList = catF R) := Lib.hid (by rw [HT.out, List.take_of_length_le (by omega)])
          clear HT
          cases ed with
          | true =>
            have HV : Hid (dotsF s.data.toList = T.data.toList ++ [47]) := Lib.hid (dots_told HL.out HI.out hke HT2.out rfl)
            clear HL HI HT2
            go_wp2
            go_ret
            exact ⟨congrArg (fun x => Ending.returned (Value.string x)) (text_plus HV.out).symm, HBL.out⟩
          | false =>
            by_cases hn : T.data.toList = []
            · have HV : Hid (dotsF s.data.toList = T.data.toList ++ [47]) := Lib.hid (dots_told HL.out HI.out hke HT2.out (by rw [hn]; rfl))
              have t1 : (T.toList == []) = true := by rw [Lib.toList_data, hn]; rfl
              have t2 : T.toList.isEmpty = true := by rw [Lib.toList_data, hn]; rfl
              clear HL HI HT2 hn
              go_wp2
              go_ret
              exact ⟨congrArg (fun x => Ending.returned (Value.string x)) (text_plus HV.out).symm, HBL.out⟩
            · have HV : Hid (dotsF s.data.toList = T.data.toList) := Lib.hid (dots_told HL.out HI.out hke HT2.out (by rw [Bool.false_or, show T.data.toList.isEmpty = false from by cases h : T.data.toList with | nil => exact absurd h hn | cons a b => rfl]; rfl))
              have t1 : (T.toList == []) = false := by rw [Lib.toList_data]; simpa using hn
              have t2 : T.toList.isEmpty = false := by rw [Lib.toList_data]; simpa using hn
              clear HL HI HT2 hn
              go_wp2
              go_ret
              exact ⟨congrArg (fun x => Ending.returned (Value.string x)) (text_is HV.out).symm, HBL.out⟩
      · subst hv
        go_wp2
        go_loopw [9, 10] (fun t i wq => wq = wr ∧ ∃ (j : Nat) (T : ByteArray), j ≤ R.length ∧ i = .int .i64 j ∧ t = .string T ∧ Hid (T.data.toList = catF (R.take j))) (fun _ i _ => R.length - (intOf i).toNat)
        case atStart => exact ⟨rfl, 0, ⟨#[]⟩, Nat.zero_le _, rfl, rfl, Lib.hid (by simp [catF, datas])⟩
        case round =>
          obtain ⟨rfl, j, T, hj, rfl, rfl, HT⟩ := hrel
          by_cases hjl : j < R.length
          · obtain ⟨x, hx⟩ : ∃ x, R[j] = x := ⟨_, rfl⟩
            have hcj := hcells j hjl
            rw [hx] at hcj
            obtain ⟨T2, hT2⟩ : ∃ T2, T ++ (⟨#[47]⟩ : ByteArray) ++ x = T2 := ⟨_, rfl⟩
            have HN : Hid (T2.data.toList = catF (R.take (j + 1))) := Lib.hid (by rw [← hT2, catF_take hjl, hx, ← HT.out]; simp)
            have hTz : T.size ≤ 1000004000004 := cat_small HM.out hRn hj HT.out
            have hxz : x.size ≤ 1000001 := by rw [← hx]; exact HM.out _ (List.getElem_mem _)
            clear hx hcells
            have hTy : (T ++ (⟨#[47]⟩ : ByteArray)).size ≤ 1000004000005 := by rw [ByteArray.size_append]; have : (⟨#[47]⟩ : ByteArray).size = 1 := rfl; omega
            go_wp2
            go_roundw
            case rel => exact ⟨trivial, j + 1, T2, by omega, by go_num, rfl, HN⟩
            case measure => simp [intOf]; omega
          · obtain rfl : j = R.length := by omega
            clear hcells HR
            have hTz : T.size ≤ 1000004000004 := cat_small HM.out hRn (Nat.le_refl _) HT.out
            have HT2 : Hid (T.data.toList = catF R) := Lib.hid (by rw [HT.out, List.take_of_length_le (by omega)])
            clear HT
            cases ed with
            | true =>
              have HV : Hid (dotsF s.data.toList = T.data.toList ++ [47]) := Lib.hid (dots_told HL.out HI.out hke HT2.out rfl)
              clear HL HI HT2
              go_wp2
              go_ret
              exact ⟨congrArg (fun x => Ending.returned (Value.string x)) (text_plus HV.out).symm, HBL.out⟩
            | false =>
              by_cases hn : T.data.toList = []
              · have HV : Hid (dotsF s.data.toList = T.data.toList ++ [47]) := Lib.hid (dots_told HL.out HI.out hke HT2.out (by rw [hn]; rfl))
                have t1 : (T.toList == []) = true := by rw [Lib.toList_data, hn]; rfl
                have t2 : T.toList.isEmpty = true := by rw [Lib.toList_data, hn]; rfl
                clear HL HI HT2 hn
                go_wp2
                go_ret
                exact ⟨congrArg (fun x => Ending.returned (Value.string x)) (text_plus HV.out).symm, HBL.out⟩
              · have HV : Hid (dotsF s.data.toList = T.data.toList) := Lib.hid (dots_told HL.out HI.out hke HT2.out (by rw [Bool.false_or, show T.data.toList.isEmpty = false from by cases h : T.data.toList with | nil => exact absurd h hn | cons a b => rfl]; rfl))
                have t1 : (T.toList == []) = false := by rw [Lib.toList_data]; simpa using hn
                have t2 : T.toList.isEmpty = false := by rw [Lib.toList_data]; simpa using hn
                clear HL HI HT2 hn
                go_wp2
                go_ret
                exact ⟨congrArg (fun x => Ending.returned (Value.string x)) (text_is HV.out).symm, HBL.out⟩
end Go.Proofs.YtokgpmelhmaokaaDoor
