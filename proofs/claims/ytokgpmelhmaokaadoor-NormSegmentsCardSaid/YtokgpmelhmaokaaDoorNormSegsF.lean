/-
  NormSegments' walk.
-/
import Derived.Test.YtokgpmelhmaokaaDoorNormSegs2
import Derived.Test.YtokgpmelhmaokaaDoorNormKnown
import Derived.Test.YtokgpmelhmaokaaDoorHandedBoth
namespace Go.Proofs.YtokgpmelhmaokaaDoor
open Go.RowKit HeadMath NormMath

theorem size_app3F (P X : ByteArray) : (P ++ (⟨#[47]⟩ : ByteArray) ++ X).size = P.size + 1 + X.size := by rw [ByteArray.size_append, ByteArray.size_append]; rfl
set_option maxHeartbeats 16000000 in
theorem segs_false (a : Option Addr) (c : Nat) (l : List UInt8) (w : World) (hat : BytesAt w a l) (m : Int) (hm : w.cell? ⟨1, 0, none⟩ = some (.int .i64 m)) :
    Calls Tryd.prog 5 #[.slice a l.length c, .bool false] w fun e w' => e = .returned (.bool true) ∧ Below w.heap.size w w' := by
  have ck := known_any w m hm
  by_cases hb : l.length ≤ 30
  · go_enter Tryd.func5, Tryd.ntmps5
    go_wp2_with fail
    refine ck.mono ?_
    rintro e w1 ⟨rfl, hb1⟩
    clear ck
    have HB1 := Lib.hid hb1
    have HAT : Hid (BytesAt w1 a l) := Lib.hid (hat.later (Below.spares hb1 (fun k hk => .inl hk)))
    have HMM : Hid (w1.cell? ⟨1, 0, none⟩ = some (.int .i64 m)) := Lib.hid (max_stays hm hb1)
    clear hb1 hat hm
    go_wp2
    go_loopw [5, 6, 7, 8] (fun p o x i wr => ∃ (k : Nat) (R : List ByteArray) (P X : ByteArray), k ≤ l.length ∧ i = .int .i64 k ∧ p = .string P ∧ x = .string X ∧ Hid (SegAt l k R P X) ∧ P.size ≤ 4 * k ∧ Hid (RowS w1.heap.size wr o R) ∧ Hid (R.length ≤ k) ∧ Hid (SmallR R) ∧ Hid (Spares (atLeast w1.heap.size) w1 wr))
      (fun _ _ _ i _ => l.length - (intOf i).toNat)
    case atStart => exact ⟨0, [], ⟨#[]⟩, ⟨#[]⟩, Nat.zero_le _, rfl, rfl, rfl, Lib.hid (segAt_zero l), by decide, Lib.hid (rowS_nil _ _), Lib.hid (by simp), Lib.hid smallR_nil, Lib.hid (Spares.refl _ _)⟩
    case round =>
      obtain ⟨k, R, P, X, hk1, rfl, rfl, rfl, HSA, hPz, HR, HRL, HM, HS⟩ := hrel
      by_cases hkl : k < l.length
      · obtain ⟨b, off, rfl, hcl0⟩ := (HAT.out.later HS.out) k hkl
        obtain ⟨r, hr8, hr⟩ : ∃ r : Nat, r < 8 ∧ (l[k].toNat : Int) % 8 = (r : Int) := ⟨l[k].toNat % 8, by omega, by omega⟩
        obtain ⟨u, hur⟩ : ∃ u, tblAt r = u := ⟨_, rfl⟩
        have HXU : Hid (u.data.toList = seg l[k]) := Lib.hid (by rw [← hur]; unfold seg; rw [show l[k].toNat % 8 = r by omega])
        have HUZ : Hid (u.size ≤ 3) := Lib.hid (by rw [← hur]; exact tbl_size hr8)
        have hcu := tbl_cell wr hr8
        rw [hur] at hcu
        have hr8i : (r : Int) < 8 := by omega
        obtain ⟨P2, hP2⟩ : ∃ P2, P ++ (⟨#[47]⟩ : ByteArray) ++ u = P2 := ⟨_, rfl⟩
        have HP2z : Hid (P2.size ≤ 4 * (k + 1)) := Lib.hid (by rw [← hP2, size_app3F]; have := HUZ.out; omega)
        have huz : u.size ≤ 3 := HUZ.out
        have HPz := Lib.hid hPz
        have hPy : P.size ≤ 1000 := by omega
        have hcl2 : (wr.alloc (.cells #[.string ⟨#[46]⟩, .string ⟨#[46, 46]⟩, .string ⟨#[97]⟩, .string ⟨#[98]⟩, .string ⟨#[46, 46, 46]⟩, .string ⟨#[46, 99]⟩, .string ⟨#[97]⟩, .string ⟨#[98]⟩] 9)).cell? ⟨b, off + k, none⟩ = some (.int .u8 l[k].toNat) := by
          obtain ⟨b', off', e, h⟩ := ((HAT.out.later HS.out).spares (F := nowhere) ((Spares.refl _ _).alloc (.cells #[.string ⟨#[46]⟩, .string ⟨#[46, 46]⟩, .string ⟨#[97]⟩, .string ⟨#[98]⟩, .string ⟨#[46, 46, 46]⟩, .string ⟨#[46, 99]⟩, .string ⟨#[97]⟩, .string ⟨#[98]⟩] 9)) (fun _ _ _ h => h)) k hkl
          cases e
          exact h
        clear hcl0 hur hPz hr8 hk1
        by_cases z1 : u.data.toList = [46]
        · have hu := z1
          clear z1
          have y1 : (u.toList == [46]) = true := by rw [Lib.toList_data, hu]; rfl
          have y2 : (u.toList == [46, 46]) = false := by rw [Lib.toList_data, hu]; rfl
          have HN := Lib.hid (HSA.out.on (R' := R) hkl HXU.out hP2.symm (by rw [hu, step_dot]))
          clear hu
          go_wp2
          go_roundw
          case rel => exact ⟨k + 1, R, P2, u, hkl, by go_num, rfl, rfl, HN, HP2z.out, Lib.hid (HR.out.spares (F := nowhere) ((Spares.refl _ _).alloc _) (fun _ _ h => h)), Lib.hid (by have := HRL.out; omega), HM, Lib.hid (HS.out.alloc _)⟩
          case measure => simp [intOf]; omega
        · by_cases z2 : u.data.toList = [46, 46]
          · have hu := z2
            clear z1 z2
            rcases List.eq_nil_or_concat R with hR0 | ⟨R0, x, hRe⟩
            · have hR00 : R.length = 0 := by rw [hR0]; rfl
              rcases HR.out.shape with ⟨hv, _⟩ | ⟨g, c, hv, _, _, _, _⟩
              · subst hv
                have y1 : (u.toList == [46]) = false := by rw [Lib.toList_data, hu]; rfl
                have y2 : (u.toList == [46, 46]) = true := by rw [Lib.toList_data, hu]; rfl
                have HN := Lib.hid (HSA.out.on (R' := R) hkl HXU.out hP2.symm (by rw [hu, step_up]; subst hR0; rfl))
                clear hu
                go_wp2
                go_roundw
                case rel => exact ⟨k + 1, R, P2, u, hkl, by go_num, rfl, rfl, HN, HP2z.out, Lib.hid (HR.out.spares (F := nowhere) ((Spares.refl _ _).alloc _) (fun _ _ h => h)), Lib.hid (by have := HRL.out; omega), HM, Lib.hid (HS.out.alloc _)⟩
                case measure => simp [intOf]; omega
              · rw [hR00] at hv
                subst hv
                have y1 : (u.toList == [46]) = false := by rw [Lib.toList_data, hu]; rfl
                have y2 : (u.toList == [46, 46]) = true := by rw [Lib.toList_data, hu]; rfl
                have HN := Lib.hid (HSA.out.on (R' := R) hkl HXU.out hP2.symm (by rw [hu, step_up]; subst hR0; rfl))
                clear hu
                go_wp2
                go_roundw
                case rel => exact ⟨k + 1, R, P2, u, hkl, by go_num, rfl, rfl, HN, HP2z.out, Lib.hid (HR.out.spares (F := nowhere) ((Spares.refl _ _).alloc _) (fun _ _ h => h)), Lib.hid (by have := HRL.out; omega), HM, Lib.hid (HS.out.alloc _)⟩
                case measure => simp [intOf]; omega
            · rw [List.concat_eq_append] at hRe
              subst hRe
              have hRd : datas R0 = (datas (R0 ++ [x])).dropLast := datas_pop R0 x
              rcases HR.out.shape with ⟨_, hv⟩ | ⟨g, c, hv, _, _, hcl, _⟩
              · simp at hv
              · rw [List.length_append, List.length_singleton] at hv hcl
                subst hv
                have hRL0 : R0.length ≤ 1000001 := by have := pop_len HRL.out; omega
                have hp0 : (0 : Int) < (R0.length : Int) + 1 := by omega
                have hw0 : wrap64 (R0.length : Int) = (R0.length : Int) := wrap_len (by omega)
                have hc0 : (R0.length : Int) ≤ (c : Int) := cast_le hcl
                clear hcl
                have HRP := Lib.hid (HR.out.pop)
                have y1 : (u.toList == [46]) = false := by rw [Lib.toList_data, hu]; rfl
                have y2 : (u.toList == [46, 46]) = true := by rw [Lib.toList_data, hu]; rfl
                have HN := Lib.hid (HSA.out.on (R' := R0) hkl HXU.out hP2.symm (by rw [hu, step_up]; exact hRd))
                clear hu
                go_wp2_with ((with_reducible show wpList _ _ _ (⟨some 31, _, _, _, _, _⟩ :: _) _ _); clear hr hr8i hcl2 hcu)
                go_roundw
                case rel => exact ⟨k + 1, R0, P2, u, hkl, by go_num, rfl, rfl, HN, HP2z.out, Lib.hid (HRP.out.spares (F := nowhere) ((Spares.refl _ _).alloc _) (fun _ _ h => h)), Lib.hid (Nat.le_succ_of_le (pop_len HRL.out)), Lib.hid HM.out.pop, Lib.hid (HS.out.alloc _)⟩
                case measure => simp [intOf]; omega
          · have HN := Lib.hid (HSA.out.on (R' := R ++ [u]) hkl HXU.out hP2.symm (by rw [step_else _ z1 z2, datas_app]))
            have y1 : (u.toList == [46]) = false := by rw [Lib.toList_data]; simpa using z1
            have y2 : (u.toList == [46, 46]) = false := by rw [Lib.toList_data]; simpa using z2
            clear z1 z2
            have HM9 : Hid (SmallR (R ++ [u])) := Lib.hid (HM.out.push (by have := HUZ.out; omega))
            have HRM : Hid (R.length + 1 ≤ 1000000000000) := Lib.hid (by have := HRL.out; omega)
            have HRL9 : Hid ((R ++ [u]).length ≤ k + 1) := Lib.hid (by have := HRL.out; simp; omega)
            go_wp2_with ((with_reducible show wpList _ _ _ (⟨some 38, _, _, _, _, _⟩ :: _) _ _); refine wpList_rowS_at rfl _ _ rfl w1.heap.size _ R rfl (HR.out.spares (F := nowhere) ((Spares.refl _ _).alloc _) (fun _ _ h => h)) u _ (alloc_size _ _) rfl HRM.out (Nat.le_trans HS.out.size ((Spares.refl nowhere _).alloc _).size) ?_; intro v9 w9 hr9 hs9; have HR9 := Lib.hid hr9; have HS9 := Lib.hid hs9; clear hr9 hs9)
            go_roundw
            case rel => exact ⟨k + 1, R ++ [u], P2, u, hkl, by go_num, rfl, rfl, HN, HP2z.out, HR9, HRL9, HM9, Lib.hid ((HS.out.alloc _).trans HS9.out)⟩
            case measure => simp [intOf]; omega
      · obtain rfl : k = l.length := by omega
        have hRn : R.length ≤ 1000002 := by have := HRL.out; omega
        have HMW : Hid (wr.cell? ⟨1, 0, none⟩ = some (.int .i64 m)) := Lib.hid (max_stays HMM.out (row_below HS.out))
        clear HAT HMM
        have hPP : (P ++ (⟨#[47]⟩ : ByteArray)).size = P.size + 1 := by rw [ByteArray.size_append]; rfl
        obtain ⟨PE, hPE⟩ : ∃ PE, (if false then P ++ (⟨#[47]⟩ : ByteArray) else P) = PE := ⟨_, rfl⟩
        have hPEz : PE.size ≤ 1000000 := by rw [← hPE]; show P.size ≤ _; omega
        have HPE : Hid (PE.data.toList = P.data.toList ++ (if false then [47] else [])) := Lib.hid (by rw [← hPE]; simp)
        have hPE2 : P = PE := hPE
        subst hPE2
        clear hPE
        rcases HR.out.shape with ⟨hv, hR0⟩ | ⟨g, c2, hv, _, hg, hcl, hcells⟩
        · subst hv
          go_wp2
          go_loopw [9, 10] (fun t i wq => wq = wr ∧ i = .int .i64 0 ∧ t = .string ⟨#[]⟩) (fun _ _ _ => 0)
          case atStart => exact ⟨rfl, rfl, rfl⟩
          case round =>
            obtain ⟨rfl, rfl, rfl⟩ := hrel
            obtain ⟨T, hT⟩ : ∃ T, (⟨#[]⟩ : ByteArray) = T := ⟨_, rfl⟩
            have HT : Hid (T.data.toList = catF (R.take R.length)) := Lib.hid (by rw [← hT, hR0]; rfl)
            have hTz : T.size ≤ 1000004000004 := by rw [← hT]; decide
            rw [hT]
            clear hT hR0 HR
            have HTF : Hid (T.data.toList = catF R) := Lib.hid (by rw [HT.out, List.take_of_length_le (Nat.le_refl _)])
            clear HT
            by_cases z1 : X.data.toList = [46]
            · have y1 : (X.toList == [46]) = true := by rw [Lib.toList_data]; rw [z1]; rfl
              have y2 : (X.toList == [46, 46]) = false := by rw [Lib.toList_data]; rw [z1]; rfl
              have HV := Lib.hid (seg_want (endd := false) HSA.out HPE.out HTF.out (t := T.data.toList ++ [47]) (by rw [z1]; rfl))
              clear HSA HPE HTF z1
              go_wp2_with fail
              refine (dots_any P wr hPEz m HMW.out).mono ?_
              rintro e w3 ⟨rfl, hb3⟩
              rw [text_plus HV.out]
              have HBL := Lib.hid (HB1.out.trans ((Below.trans (row_below HS.out) (hb3.mono HS.out.size)).mono HB1.out.size))
              clear hb3
              go_wp2
              go_ret
              exact ⟨rfl, HBL.out⟩
            · by_cases z2 : X.data.toList = [46, 46]
              · have y1 : (X.toList == [46]) = false := by rw [Lib.toList_data]; rw [z2]; rfl
                have y2 : (X.toList == [46, 46]) = true := by rw [Lib.toList_data]; rw [z2]; rfl
                have HV := Lib.hid (seg_want (endd := false) HSA.out HPE.out HTF.out (t := T.data.toList ++ [47]) (by rw [z2]; rfl))
                clear HSA HPE HTF z1 z2
                go_wp2_with fail
                refine (dots_any P wr hPEz m HMW.out).mono ?_
                rintro e w3 ⟨rfl, hb3⟩
                rw [text_plus HV.out]
                have HBL := Lib.hid (HB1.out.trans ((Below.trans (row_below HS.out) (hb3.mono HS.out.size)).mono HB1.out.size))
                clear hb3
                go_wp2
                go_ret
                exact ⟨rfl, HBL.out⟩
              · have y1 : (X.toList == [46]) = false := by rw [Lib.toList_data]; simpa using z1
                have y2 : (X.toList == [46, 46]) = false := by rw [Lib.toList_data]; simpa using z2
                have y1d : (X.data.toList == [46]) = false := by simpa using z1
                have y2d : (X.data.toList == [46, 46]) = false := by simpa using z2
                by_cases hn : T.data.toList = []
                · have t1 : (T.toList == []) = true := by rw [Lib.toList_data, hn]; rfl
                  have t2 : T.toList.isEmpty = true := by rw [Lib.toList_data, hn]; rfl
                  have HV := Lib.hid (seg_want (endd := false) HSA.out HPE.out HTF.out (t := T.data.toList ++ [47]) (by rw [y1d, y2d, hn]; rfl))
                  clear HSA HPE HTF z1 z2 y1d y2d hn
                  go_wp2_with fail
                  refine (dots_any P wr hPEz m HMW.out).mono ?_
                  rintro e w3 ⟨rfl, hb3⟩
                  rw [text_plus HV.out]
                  have HBL := Lib.hid (HB1.out.trans ((Below.trans (row_below HS.out) (hb3.mono HS.out.size)).mono HB1.out.size))
                  clear hb3
                  go_wp2
                  go_ret
                  exact ⟨rfl, HBL.out⟩
                · have t1 : (T.toList == []) = false := by rw [Lib.toList_data]; simpa using hn
                  have t2 : T.toList.isEmpty = false := by rw [Lib.toList_data]; simpa using hn
                  have t3 : T.data.toList.isEmpty = false := by cases h : T.data.toList with | nil => exact absurd h hn | cons a b => rfl
                  have HV := Lib.hid (seg_want (endd := false) HSA.out HPE.out HTF.out (t := T.data.toList) (by rw [y1d, y2d, t3]; rfl))
                  clear HSA HPE HTF z1 z2 y1d y2d hn t3
                  go_wp2_with fail
                  refine (dots_any P wr hPEz m HMW.out).mono ?_
                  rintro e w3 ⟨rfl, hb3⟩
                  rw [text_is HV.out]
                  have HBL := Lib.hid (HB1.out.trans ((Below.trans (row_below HS.out) (hb3.mono HS.out.size)).mono HB1.out.size))
                  clear hb3
                  go_wp2
                  go_ret
                  exact ⟨rfl, HBL.out⟩
        · subst hv
          go_wp2
          go_loopw [9, 10] (fun t i wq => wq = wr ∧ ∃ (j : Nat) (T : ByteArray), j ≤ R.length ∧ i = .int .i64 j ∧ t = .string T ∧ Hid (T.data.toList = catF (R.take j))) (fun _ i _ => R.length - (intOf i).toNat)
          case atStart => exact ⟨rfl, 0, ⟨#[]⟩, Nat.zero_le _, rfl, rfl, Lib.hid (by simp [catF, datas])⟩
          case round =>
            obtain ⟨rfl, j, T, hj, rfl, rfl, HT⟩ := hrel
            have hTz : T.size ≤ 1000004000004 := cat_small HM.out hRn hj HT.out
            by_cases hjl : j < R.length
            · obtain ⟨x, hx⟩ : ∃ x, R[j] = x := ⟨_, rfl⟩
              have hcj := hcells j hjl
              rw [hx] at hcj
              obtain ⟨T2, hT2⟩ : ∃ T2, T ++ (⟨#[47]⟩ : ByteArray) ++ x = T2 := ⟨_, rfl⟩
              have HN : Hid (T2.data.toList = catF (R.take (j + 1))) := Lib.hid (by rw [← hT2, catF_take hjl, hx, ← HT.out]; simp)
              have hxz : x.size ≤ 1000001 := by rw [← hx]; exact HM.out _ (List.getElem_mem _)
              clear hx hcells
              have hTy : (T ++ (⟨#[47]⟩ : ByteArray)).size ≤ 1000004000005 := by rw [ByteArray.size_append]; have : (⟨#[47]⟩ : ByteArray).size = 1 := rfl; omega
              go_wp2
              go_roundw
              case rel => exact ⟨trivial, j + 1, T2, by omega, by go_num, rfl, HN⟩
              case measure => simp [intOf]; omega
            · obtain rfl : j = R.length := by omega
              clear hcells HR
              have HTF : Hid (T.data.toList = catF R) := Lib.hid (by rw [HT.out, List.take_of_length_le (Nat.le_refl _)])
              clear HT
              by_cases z1 : X.data.toList = [46]
              · have y1 : (X.toList == [46]) = true := by rw [Lib.toList_data]; rw [z1]; rfl
                have y2 : (X.toList == [46, 46]) = false := by rw [Lib.toList_data]; rw [z1]; rfl
                have HV := Lib.hid (seg_want (endd := false) HSA.out HPE.out HTF.out (t := T.data.toList ++ [47]) (by rw [z1]; rfl))
                clear HSA HPE HTF z1
                go_wp2_with fail
                refine (dots_any P wr hPEz m HMW.out).mono ?_
                rintro e w3 ⟨rfl, hb3⟩
                rw [text_plus HV.out]
                have HBL := Lib.hid (HB1.out.trans ((Below.trans (row_below HS.out) (hb3.mono HS.out.size)).mono HB1.out.size))
                clear hb3
                go_wp2
                go_ret
                exact ⟨rfl, HBL.out⟩
              · by_cases z2 : X.data.toList = [46, 46]
                · have y1 : (X.toList == [46]) = false := by rw [Lib.toList_data]; rw [z2]; rfl
                  have y2 : (X.toList == [46, 46]) = true := by rw [Lib.toList_data]; rw [z2]; rfl
                  have HV := Lib.hid (seg_want (endd := false) HSA.out HPE.out HTF.out (t := T.data.toList ++ [47]) (by rw [z2]; rfl))
                  clear HSA HPE HTF z1 z2
                  go_wp2_with fail
                  refine (dots_any P wr hPEz m HMW.out).mono ?_
                  rintro e w3 ⟨rfl, hb3⟩
                  rw [text_plus HV.out]
                  have HBL := Lib.hid (HB1.out.trans ((Below.trans (row_below HS.out) (hb3.mono HS.out.size)).mono HB1.out.size))
                  clear hb3
                  go_wp2
                  go_ret
                  exact ⟨rfl, HBL.out⟩
                · have y1 : (X.toList == [46]) = false := by rw [Lib.toList_data]; simpa using z1
                  have y2 : (X.toList == [46, 46]) = false := by rw [Lib.toList_data]; simpa using z2
                  have y1d : (X.data.toList == [46]) = false := by simpa using z1
                  have y2d : (X.data.toList == [46, 46]) = false := by simpa using z2
                  by_cases hn : T.data.toList = []
                  · have t1 : (T.toList == []) = true := by rw [Lib.toList_data, hn]; rfl
                    have t2 : T.toList.isEmpty = true := by rw [Lib.toList_data, hn]; rfl
                    have HV := Lib.hid (seg_want (endd := false) HSA.out HPE.out HTF.out (t := T.data.toList ++ [47]) (by rw [y1d, y2d, hn]; rfl))
                    clear HSA HPE HTF z1 z2 y1d y2d hn
                    go_wp2_with fail
                    refine (dots_any P wr hPEz m HMW.out).mono ?_
                    rintro e w3 ⟨rfl, hb3⟩
                    rw [text_plus HV.out]
                    have HBL := Lib.hid (HB1.out.trans ((Below.trans (row_below HS.out) (hb3.mono HS.out.size)).mono HB1.out.size))
                    clear hb3
                    go_wp2
                    go_ret
                    exact ⟨rfl, HBL.out⟩
                  · have t1 : (T.toList == []) = false := by rw [Lib.toList_data]; simpa using hn
                    have t2 : T.toList.isEmpty = false := by rw [Lib.toList_data]; simpa using hn
                    have t3 : T.data.toList.isEmpty = false := by cases h : T.data.toList with | nil => exact absurd h hn | cons a b => rfl
                    have HV := Lib.hid (seg_want (endd := false) HSA.out HPE.out HTF.out (t := T.data.toList) (by rw [y1d, y2d, t3]; rfl))
                    clear HSA HPE HTF z1 z2 y1d y2d hn t3
                    go_wp2_with fail
                    refine (dots_any P wr hPEz m HMW.out).mono ?_
                    rintro e w3 ⟨rfl, hb3⟩
                    rw [text_is HV.out]
                    have HBL := Lib.hid (HB1.out.trans ((Below.trans (row_below HS.out) (hb3.mono HS.out.size)).mono HB1.out.size))
                    clear hb3
                    go_wp2
                    go_ret
                    exact ⟨rfl, HBL.out⟩
  · go_enter Tryd.func5, Tryd.ntmps5
    go_wp2_with fail
    refine ck.mono ?_
    rintro e w1 ⟨rfl, hb1⟩
    clear ck
    go_wp2
    go_ret
    exact ⟨rfl, hb1⟩
end Go.Proofs.YtokgpmelhmaokaaDoor
