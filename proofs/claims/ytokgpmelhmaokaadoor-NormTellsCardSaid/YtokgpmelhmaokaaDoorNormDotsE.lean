/-
  The program's Dots, another last piece.
-/
import Derived.Test.YtokgpmelhmaokaaDoorNormDotsParts
namespace Go.Proofs.YtokgpmelhmaokaaDoor
open Go.RowKit HeadMath NormMath

set_option maxHeartbeats 16000000 in
theorem dots_else (s : ByteArray) (w : World) (hs : s.size ≤ 1000000) (m : Int) (hm : w.cell? ⟨1, 0, none⟩ = some (.int .i64 m)) (hk : ∀ (D : List Seg) (x : Seg), splitS (stripF s.data.toList) = D ++ [x] → x ≠ [46] ∧ x ≠ [46, 46] ∧ x ≠ []) :
    Calls Tryd.prog 14 #[.string s] w fun e w' => e = .returned (.string ⟨(dotsF s.data.toList).toArray⟩) ∧ Below w.heap.size w w' := by
  go_enter Tryd.func14, Tryd.ntmps14
  go_wp2_with fail
  refine (trim_any s w hs).mono ?_
  rintro e w1 ⟨p, hp, hpz, rfl, rfl⟩
  go_wp2_with fail
  refine (pieces_any p _ hpz m hm).mono ?_
  rintro e w2 ⟨L, hd, hne, hz, hl, rfl, hw2⟩
  rw [hp] at hd
  obtain ⟨D, x, rfl⟩ : ∃ D x, L = D ++ [x] := by
    rcases List.eq_nil_or_concat L with h | ⟨D, x, h⟩
    · exact absurd h hne
    · exact ⟨D, x, by rw [h, List.concat_eq_append]⟩
  have hdx := hd
  rw [datas_app] at hdx
  have hu := hk _ _ hdx.symm
  have hlen : (D ++ [x]).length = D.length + 1 := by simp
  rw [hlen] at hl ⊢
  have HC : Hid (∀ j (hj : j < (D ++ [x]).length), w2.cell? ⟨w1.heap.size, j, none⟩ = some (.string (D ++ [x])[j])) := Lib.hid (by subst hw2; exact fun j hj => cell_of_lit w1 (D ++ [x]) j hj)
  have HSP : Hid (Spares nowhere w1 w2) := Lib.hid (by subst hw2; exact (Spares.refl _ _).alloc _)
  have h2s : w2.heap.size = w1.heap.size + 1 := by subst hw2; simp [go_sem]
  have hcx : w2.cell? ⟨w1.heap.size, D.length, none⟩ = some (.string x) := by
    have := HC.out D.length (by simp)
    simpa using this
  have hdl : D.length ≤ 1000000 := by omega
  have HDD := Lib.hid hdx
  have HZ := Lib.hid hz
  clear hw2 hd hdx hne hk hz hp hpz hm hlen
  obtain ⟨M, hM⟩ : ∃ M, D ++ [x] = M := ⟨_, rfl⟩
  have HML : Hid (M.length = D.length + 1) := Lib.hid (by rw [← hM]; simp)
  have HCM : Hid (∀ j (hj : j < M.length), w2.cell? ⟨w1.heap.size, j, none⟩ = some (.string M[j])) := Lib.hid (by
    subst hM
    exact HC.out)
  have HMZ : Hid (SmallR M) := Lib.hid (by rw [← hM]; exact HZ.out)
  have HMD : Hid (datas M = if x.data.toList = [] then datas D else datas D ++ [x.data.toList]) := Lib.hid (by rw [if_neg (hu.2.2), ← hM, datas_app])
  have HO : Hid (openD x.data.toList = false) := Lib.hid (open_else hu.1 hu.2.1 hu.2.2)
  have y1 : (x.toList == [46]) = false := by rw [Lib.toList_data]; simpa using hu.1
  have y2 : (x.toList == [46, 46]) = false := by rw [Lib.toList_data]; simpa using hu.2.1
  have y3 : x.toList.isEmpty = false := by rw [Lib.toList_data]; simpa using hu.2.2
  have y4 : (x.toList == []) = false := by rw [Lib.toList_data]; simpa using hu.2.2
  clear hM HC HZ hu
  have hB0 : w1.heap.size + 1 ≤ w2.heap.size := by omega
  have hnm : (D.length + 1) ≤ 1000000000000 := by omega
  go_wp2_with ((with_reducible show wpList _ _ _ (⟨some 38, _, _, _, _, _⟩ :: _) _ _); refine wpList_make_rowS rfl _ _ rfl (w1.heap.size + 1) .i64 .i64 _ (D.length + 1) rfl rfl (by first | rfl | omega) hnm hB0 ?_; intro v9 w9 hr9 hs9; have HR9 := Lib.hid hr9; have HS9 := Lib.hid hs9; clear hr9 hs9)
  clear y1 y2 y3 y4 hl hs hB0 hnm hcx
  have H2S := Lib.hid h2s
  clear h2s
  go_loopw [6, 41] (fun lf i wr => ∃ (k : Nat) (R : List ByteArray), k ≤ (D.length + 1) ∧ i = .int .i64 k ∧ Hid (datas R = (datas (M.take k)).foldl stepD []) ∧ Hid (RowS (w1.heap.size + 1) wr lf R) ∧ Hid (R.length ≤ k) ∧ Hid (SmallR R) ∧ Hid (Spares (atLeast (w1.heap.size + 1)) w2 wr))
    (fun _ i _ => (D.length + 1) - (intOf i).toNat)
  case atStart => exact ⟨0, [], Nat.zero_le _, rfl, Lib.hid (by simp [datas]), HR9, Lib.hid (by simp), Lib.hid smallR_nil, Lib.hid (HS9.out.mono (fun _ h => by cases h))⟩
  clear HR9 HS9
  case round =>
    obtain ⟨k, R, hk1, rfl, HF, HR, HRL, HM, HS⟩ := hrel
    have HB1 : Hid (w1.heap.size + 1 ≤ wr.heap.size) := Lib.hid (by have := HS.out.size; have := H2S.out; omega)
    by_cases hlt : k < (D.length + 1)
    · have hkM : k < M.length := by rw [HML.out]; exact hlt
      have hcu : wr.cell? ⟨w1.heap.size, k, none⟩ = some (.string M[k]) := by
        have h2s := H2S.out
        rw [HS.out.cell (p := ⟨w1.heap.size, k, none⟩) (show w1.heap.size < w2.heap.size by omega) (show ¬ (w1.heap.size + 1 ≤ w1.heap.size) by omega)]
        exact HCM.out k hkM
      obtain ⟨u, hMu⟩ : ∃ u, M[k] = u := ⟨_, rfl⟩
      rw [hMu] at hcu
      have HUZ : Hid (u.size ≤ 1000001) := Lib.hid (by rw [← hMu]; exact HMZ.out _ (List.getElem_mem _))
      by_cases z1 : u.data.toList = [46]
      · have hu := z1
        clear z1
        have y1 : (u.toList == [46]) = true := by rw [Lib.toList_data, hu]; rfl
        have y2 : (u.toList == [46, 46]) = false := by rw [Lib.toList_data, hu]; rfl
        have y3 : u.toList.isEmpty = false := by rw [Lib.toList_data, hu]; rfl
        have y4 : (u.toList == []) = false := by rw [Lib.toList_data, hu]; rfl
        have HN := Lib.hid (fold_on (R' := R) HF.out hkM hMu (by rw [hu, step_dot]))
        clear hu
        go_wp2
        go_roundw
        case rel => exact ⟨k + 1, R, by omega, by go_num, HN, HR, Lib.hid (by have := HRL.out; omega), HM, HS⟩
        case measure => simp [intOf]; omega
      · by_cases z2 : u.data.toList = [46, 46]
        · have hu := z2
          clear z1 z2
          rcases List.eq_nil_or_concat R with hR0 | ⟨R0, x, hRe⟩
          · have hR00 : R.length = 0 := by rw [hR0]; rfl
            rcases HR.out.shape with ⟨hv, _⟩ | ⟨g, c, hv, _, _, _, _⟩
            · subst hv
              have y1 : (u.toList == [46]) = false := by rw [Lib.toList_data, hu]; rfl
              have y2 : (u.toList == [46, 46]) = true := by rw [Lib.toList_data, hu]; rfl
              have y3 : u.toList.isEmpty = false := by rw [Lib.toList_data, hu]; rfl
              have y4 : (u.toList == []) = false := by rw [Lib.toList_data, hu]; rfl
              have HN := Lib.hid (fold_on (R' := R) HF.out hkM hMu (by rw [hu, step_up]; subst hR0; rfl))
              clear hu
              go_wp2
              go_roundw
              case rel => exact ⟨k + 1, R, by omega, by go_num, HN, HR, Lib.hid (by have := HRL.out; omega), HM, HS⟩
              case measure => simp [intOf]; omega
            · rw [hR00] at hv
              subst hv
              have y1 : (u.toList == [46]) = false := by rw [Lib.toList_data, hu]; rfl
              have y2 : (u.toList == [46, 46]) = true := by rw [Lib.toList_data, hu]; rfl
              have y3 : u.toList.isEmpty = false := by rw [Lib.toList_data, hu]; rfl
              have y4 : (u.toList == []) = false := by rw [Lib.toList_data, hu]; rfl
              have HN := Lib.hid (fold_on (R' := R) HF.out hkM hMu (by rw [hu, step_up]; subst hR0; rfl))
              clear hu
              go_wp2
              go_roundw
              case rel => exact ⟨k + 1, R, by omega, by go_num, HN, HR, Lib.hid (by have := HRL.out; omega), HM, HS⟩
              case measure => simp [intOf]; omega
          · rw [List.concat_eq_append] at hRe
            subst hRe
            have hRd : datas R0 = (datas (R0 ++ [x])).dropLast := datas_pop R0 x
            rcases HR.out.shape with ⟨_, hv⟩ | ⟨g, c, hv, _, _, hcl, _⟩
            · simp at hv
            · rw [List.length_append, List.length_singleton] at hv hcl
              subst hv
              have hRL1 := pop_len HRL.out
              have hRL0 : R0.length ≤ 1000001 := by omega
              have hp0 : (0 : Int) < (R0.length : Int) + 1 := by omega
              have hw0 : wrap64 (R0.length : Int) = (R0.length : Int) := wrap_len (by omega)
              have hc0 : (R0.length : Int) ≤ (c : Int) := cast_le hcl
              have HRP := Lib.hid (HR.out.pop)
              have y1 : (u.toList == [46]) = false := by rw [Lib.toList_data, hu]; rfl
              have y2 : (u.toList == [46, 46]) = true := by rw [Lib.toList_data, hu]; rfl
              have y3 : u.toList.isEmpty = false := by rw [Lib.toList_data, hu]; rfl
              have y4 : (u.toList == []) = false := by rw [Lib.toList_data, hu]; rfl
              have HN := Lib.hid (fold_on (R' := R0) HF.out hkM hMu (by rw [hu, step_up]; exact hRd))
              clear hu
              go_wp2
              go_roundw
              case rel => exact ⟨k + 1, R0, by omega, by go_num, HN, HRP, Lib.hid (by have := HRL.out; simp at this; omega), Lib.hid HM.out.pop, HS⟩
              case measure => simp [intOf]; omega
        · have HN := Lib.hid (fold_on (R' := R ++ [u]) HF.out hkM hMu (by rw [step_else _ z1 z2, datas_app]))
          have y1 : (u.toList == [46]) = false := by rw [Lib.toList_data]; simpa using z1
          have y2 : (u.toList == [46, 46]) = false := by rw [Lib.toList_data]; simpa using z2
          clear z1 z2
          have HM9 : Hid (SmallR (R ++ [u])) := Lib.hid (HM.out.push HUZ.out)
          have HRM : Hid (R.length + 1 ≤ 1000000000000) := Lib.hid (by have := HRL.out; omega)
          have HRL9 : Hid ((R ++ [u]).length ≤ k + 1) := Lib.hid (by have := HRL.out; simp; omega)
          go_wp2_with ((with_reducible show wpList _ _ _ (⟨some 49, _, _, _, _, _⟩ :: _) _ _); refine wpList_rowS_one rfl _ _ rfl (w1.heap.size + 1) _ R rfl HR.out u rfl HRM.out HB1.out ?_; intro v9 w9 hr9 hs9; have HR9 := Lib.hid hr9; have HS9 := Lib.hid hs9; clear hr9 hs9)
          go_roundw
          case rel => exact ⟨k + 1, R ++ [u], by omega, by go_num, HN, HR9, HRL9, HM9, Lib.hid (HS.out.trans HS9.out)⟩
          case measure => simp [intOf]; omega
    · obtain rfl : k = (D.length + 1) := by omega
      have HFF : Hid (datas R = (if x.data.toList = [] then datas D else datas D ++ [x.data.toList]).foldl stepD []) := Lib.hid (by rw [HF.out, List.take_of_length_le (Nat.le_of_eq HML.out), HMD.out])
      have hRl : R.length ≤ 1000001 := by have := HRL.out; omega
      have HJ := Lib.hid (show dotsF s.data.toList = [47] ++ Lib.join (datas R) [47] from dots_joined HDD.out rfl HFF.out (by rw [HO.out]; rfl))
      go_wp2_with fail
      refine (join_any (B := w1.heap.size + 1) R _ _ HR.out HM.out (by have := HRL.out; simp; omega)).mono ?_
      rintro e w2 ⟨T, hT, hTz, rfl, hS2⟩
      have HV : Hid (dotsF s.data.toList = [47] ++ T.data.toList) := Lib.hid (by rw [HJ.out, hT])
      have HBL := Lib.hid (row_below (dots_frame HSP.out HS.out hS2))
      clear hT hS2
      go_wp2
      go_ret
      exact ⟨congrArg (fun x => Ending.returned (Value.string x)) (text_ahead HV.out).symm, HBL.out⟩
end Go.Proofs.YtokgpmelhmaokaaDoor
