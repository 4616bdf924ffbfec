/-
  HttpStatus.
-/
import Derived.Deep.QuietTactic
import Derived.Test.YtjpmofnnjdhamaaDoorMg2
import Derived.Test.YtjpmofnnjdhamaaDoorMg19
import Derived.Test.YtjpmofnnjdhamaaDoorMg22
import Derived.Test.YtjpmofnnjdhamaaDoorMg23
namespace Go.Proofs.YtjpmofnnjdhamaaDoor
open Go.RowKit HeadMath NormMath NormS HeadS ChunkMath HttpMath

def tenB : ByteArray := ⟨#[48, 49, 50, 51, 52, 53, 54, 55, 56, 57]⟩
theorem ten_at {k : Nat} (h : k ≤ 9) : tenB.extract k (k + 1) = ⟨#[dg k]⟩ := by
  match k, h with
  | 0, _ => rfl
  | 1, _ => rfl
  | 2, _ => rfl
  | 3, _ => rfl
  | 4, _ => rfl
  | 5, _ => rfl
  | 6, _ => rfl
  | 7, _ => rfl
  | 8, _ => rfl
  | 9, _ => rfl
set_option maxRecDepth 100000 in
set_option maxHeartbeats 4000000 in
theorem statusLaw_any (n : Int) (reason : ByteArray) (w : World) (hn : -9223372036854775808 ≤ n ∧ n ≤ 9223372036854775807) (hr : reason.size ≤ 140737488351232) (hM : MaxL w) :
    Calls Tryd.prog 4 #[.int .i64 n, .string reason] w (KnowsH w) := by
  have K := knownH_any w hM
  have P := fun w => place_any n 1000 w (by decide) (by decide) hn
  have X := fun w => refText_any reason w hr
  unfold KnowsH at K ⊢
  have HM := Lib.hid hM
  clear hM hn
  by_cases hl : 50 < reason.size
  · have d0 : decide ((50 : Int) < (reason.size : Int)) = true := by simp; omega
    go_enter Tryd.func4, Tryd.ntmps4
    go_wp2_with fail
    refine K.mono ?_
    rintro _ w1 ⟨rfl, hs1⟩
    go_wp2_with fail
    refine (P _).mono ?_
    rintro _ w2 ⟨⟨m, hm, rfl⟩, hw⟩
    subst hw
    go_wp2
    go_ret
    exact ⟨rfl, hs1⟩
  · have d0 : decide ((50 : Int) < (reason.size : Int)) = false := by simp; omega
    obtain ⟨t, ht⟩ : ∃ t, textF reason = t := ⟨_, rfl⟩
    rw [ht] at X
    cases t with
    | false =>
      go_enter Tryd.func4, Tryd.ntmps4
      go_wp2_with fail
      refine K.mono ?_
      rintro _ w1 ⟨rfl, hs1⟩
      go_wp2_with fail
      refine (P _).mono ?_
      rintro _ w2 ⟨⟨m, hm, rfl⟩, hw⟩
      subst hw
      go_wp2_with fail
      refine (X _).mono ?_
      rintro _ w2 ⟨rfl, hw⟩
      subst hw
      go_wp2
      go_ret
      exact ⟨rfl, hs1⟩
    | true =>
      have hall : reason.data.toList.all textB = true := ht
      have HALL := Lib.hid hall
      clear hall ht hr
      go_enter Tryd.func4, Tryd.ntmps4
      go_wp2_with fail
      refine K.mono ?_
      rintro _ w1 ⟨rfl, hs1⟩
      have HS1 := Lib.hid hs1
      go_wp2_with fail
      refine (P _).mono ?_
      rintro _ w2 ⟨⟨m, hm, rfl⟩, hw⟩
      subst hw
      clear K P hs1
      have h1 : (m : Int) / 100 ≤ 9 := by omega
      go_wp2_with fail
      refine (X _).mono ?_
      rintro _ w2 ⟨rfl, hw⟩
      subst hw
      clear X
      obtain ⟨a, ha⟩ : ∃ a, m / 100 = a := ⟨_, rfl⟩
      obtain ⟨b, hb⟩ : ∃ b, m / 10 % 10 = b := ⟨_, rfl⟩
      obtain ⟨c, hc⟩ : ∃ c, m % 10 = c := ⟨_, rfl⟩
      have ha9 : a ≤ 9 := by omega
      have hb9 : b ≤ 9 := by omega
      have hc9 : c ≤ 9 := by omega
      have e1 : (m : Int) / 100 = (a : Int) := by omega
      have e2 : (m : Int) / 10 % 10 = (b : Int) := by omega
      have e3 : (m : Int) % 10 = (c : Int) := by omega
      have t1 : (m : Int).tdiv 100 = (a : Int) := by rw [Int.tdiv_eq_ediv_of_nonneg (by omega)]; exact e1
      have t2 : ((m : Int).tdiv 10).tmod 10 = (b : Int) := by rw [Int.tdiv_eq_ediv_of_nonneg (by omega), Int.tmod_eq_emod_of_nonneg (by omega)]; exact e2
      have t3 : (m : Int).tmod 10 = (c : Int) := by rw [Int.tmod_eq_emod_of_nonneg (by omega)]; exact e3
      go_wp2
      go_quiet (fail)
      obtain ⟨S, hS⟩ : ∃ S : ByteArray, ({ data := #[72, 84, 84, 80, 47, 49, 46, 49, 32] } : ByteArray) ++ ({ data := #[48, 49, 50, 51, 52, 53, 54, 55, 56, 57] } : ByteArray).extract a (a + 1) ++ ({ data := #[48, 49, 50, 51, 52, 53, 54, 55, 56, 57] } : ByteArray).extract b (b + 1) ++ ({ data := #[48, 49, 50, 51, 52, 53, 54, 55, 56, 57] } : ByteArray).extract c (c + 1) ++ { data := #[32] } ++ reason = S := ⟨_, rfl⟩
      have hSd : S.data.toList = respL m reason.data.toList := by
        have u1 : ({ data := #[48, 49, 50, 51, 52, 53, 54, 55, 56, 57] } : ByteArray).extract a (a + 1) = ⟨#[dg a]⟩ := ten_at ha9
        have u2 : ({ data := #[48, 49, 50, 51, 52, 53, 54, 55, 56, 57] } : ByteArray).extract b (b + 1) = ⟨#[dg b]⟩ := ten_at hb9
        have u3 : ({ data := #[48, 49, 50, 51, 52, 53, 54, 55, 56, 57] } : ByteArray).extract c (c + 1) = ⟨#[dg c]⟩ := ten_at hc9
        rw [← hS, u1, u2, u3]
        unfold respL digs
        rw [ha, hb, hc]
        simp [ByteArray.data_append, http11]
      rw [hS]
      obtain ⟨X, hX⟩ : ∃ X : ByteArray, S ++ ⟨tailS.toArray⟩ = X := ⟨_, rfl⟩
      have hXd : X.data.toList = respL m reason.data.toList ++ tailS := by rw [← hX, ByteArray.data_append, Array.toList_append, hSd]
      have hX' : S ++ ({ data := #[13, 10, 67, 111, 110, 116, 101, 110, 116, 45, 76, 101, 110, 103, 116, 104, 58, 32, 50, 13, 10, 13, 10, 104, 105] } : ByteArray) = X := hX
      have hrs : reason.data.toList.length ≤ 1000 := by rw [size_list]; omega
      have hR := rsp_status hm HALL.out hrs
      rw [← hXd] at hR
      have hXs : X.size ≤ 2000 := by
        rw [← size_list, hXd]
        unfold respL
        simp [http11, digs, tailS, clL2]
        rw [size_list] at hrs
        omega
      have hSs : S.size ≤ 1000 := by
        rw [← size_list, hSd]
        unfold respL
        simp [http11, digs]
        rw [size_list] at hrs
        omega
      have hz25 : ({ data := #[13, 10, 67, 111, 110, 116, 101, 110, 116, 45, 76, 101, 110, 103, 116, 104, 58, 32, 50, 13, 10, 13, 10, 104, 105] } : ByteArray).size = 25 := rfl
      have HR := Lib.hid hR
      have HBA : Hid (ba reason.data.toList = reason) := Lib.hid rfl
      generalize hw2 : w1.drewN _ = w2
      have HS2 : Hid (Spares nowhere w w2) := Lib.hid (by rw [← hw2]; exact HS1.out.drewN _)
      obtain ⟨c5, v5, hcv, hat5, hs5, hcap⟩ := conv_str w2 X
      have HS5 := Lib.hid (HS2.out.trans hs5)
      have K := response_any X.data.toList ⟨#[71, 69, 84]⟩ (some ⟨w2.heap.size, 0, none⟩) c5 X.size v5 (size_list X).symm hat5 (by rw [size_list]; exact hcap) (fun e => by cases e) (by rw [size_list]; omega) (HM.out.spares HS5.out)
      rw [show responseF X.data.toList ⟨#[71, 69, 84]⟩ = if 200 ≤ m ∧ m ≤ 599 then .ok (m, reason.data.toList, twoF, stBody m) else .error 95 from HR.out] at K
      clear ha hb hc e1 e2 e3 t1 t2 t3 ha9 hb9 hc9 hS hSd hX hXd hR HALL h1 hrs hat5 hs5 hcap hw2 HR HS1
      by_cases hc1 : 200 ≤ m ∧ m ≤ 599
      · rw [if_pos hc1] at K
        unfold RspPost rspV at K
        have d1 : decide ((m : Int) < 200) = false := by simp; omega
        have d2 : decide ((599 : Int) < (m : Int)) = false := by simp; omega
        have d6 : ((m : Int) == (m : Int)) = true := by simp
        have d7 : (reason.toList == reason.toList) = true := by simp
        by_cases h4 : m = 204
        · have d3 : ((m : Int) == 204) = true := by rw [h4]; rfl
          have hnb : noneB m = true := by unfold noneB; rw [h4]; rfl
          have hbody : stBody m = [] := by unfold stBody; rw [hnb]; rfl
          have cB1 := fun w => bodiless_any m ⟨#[71, 69, 84]⟩ w
          rw [show bodilessF m ⟨#[71, 69, 84]⟩ = true from (bodiless_get hc1.1).trans hnb] at cB1
          have cB2 := fun w => bodiless_any m ⟨#[72, 69, 65, 68]⟩ w
          rw [show bodilessF m ⟨#[72, 69, 65, 68]⟩ = true from bodiless_head m] at cB2
          rw [hbody] at K
          simp only at K
          clear hnb hbody hc1 h4
          go_wp2_with fail
          refine K.mono ?_
          rintro _ w3 ⟨⟨vf, vb, rfl, hf3, hb3⟩, hs3⟩
          obtain ⟨fa, fc, rfl, _⟩ := rowF_shape hf3
          obtain ⟨ab, cb, rfl, _, _, _⟩ := hb3.shape
          rw [HBA.out, show twoF.length = 1 from rfl]
          simp only [List.length_nil]
          have HS3 := Lib.hid (HS5.out.trans hs3)
          clear hf3 hb3 hs3 K
          go_wp2_with fail
          refine (cB1 _).mono ?_
          rintro _ w4 ⟨rfl, hw⟩
          replace hw := hw.symm
          subst hw
          go_wp2_with fail
          refine (cB2 _).mono ?_
          rintro _ w4 ⟨rfl, hw⟩
          replace hw := hw.symm
          subst hw
          go_wp2
          go_ret
          exact ⟨rfl, HS3.out.alloc _⟩
        · have d3 : ((m : Int) == 204) = false := beq_eq_false_iff_ne.2 (by omega)
          by_cases h5 : m = 304
          · have d4 : ((m : Int) == 304) = true := by rw [h5]; rfl
            have hnb : noneB m = true := by unfold noneB; rw [h5]; rfl
            have hbody : stBody m = [] := by unfold stBody; rw [hnb]; rfl
            have cB1 := fun w => bodiless_any m ⟨#[71, 69, 84]⟩ w
            rw [show bodilessF m ⟨#[71, 69, 84]⟩ = true from (bodiless_get hc1.1).trans hnb] at cB1
            have cB2 := fun w => bodiless_any m ⟨#[72, 69, 65, 68]⟩ w
            rw [show bodilessF m ⟨#[72, 69, 65, 68]⟩ = true from bodiless_head m] at cB2
            rw [hbody] at K
            simp only at K
            clear hnb hbody hc1 h4 h5
            go_wp2_with fail
            refine K.mono ?_
            rintro _ w3 ⟨⟨vf, vb, rfl, hf3, hb3⟩, hs3⟩
            obtain ⟨fa, fc, rfl, _⟩ := rowF_shape hf3
            obtain ⟨ab, cb, rfl, _, _, _⟩ := hb3.shape
            rw [HBA.out, show twoF.length = 1 from rfl]
            simp only [List.length_nil]
            have HS3 := Lib.hid (HS5.out.trans hs3)
            clear hf3 hb3 hs3 K
            go_wp2_with fail
            refine (cB1 _).mono ?_
            rintro _ w4 ⟨rfl, hw⟩
            replace hw := hw.symm
            subst hw
            go_wp2_with fail
            refine (cB2 _).mono ?_
            rintro _ w4 ⟨rfl, hw⟩
            replace hw := hw.symm
            subst hw
            go_wp2
            go_ret
            exact ⟨rfl, HS3.out.alloc _⟩
          · have d4 : ((m : Int) == 304) = false := beq_eq_false_iff_ne.2 (by omega)
            have hnb : noneB m = false := by unfold noneB; rw [beq_eq_false_iff_ne.2 h4, beq_eq_false_iff_ne.2 h5]; rfl
            have hbody : stBody m = [104, 105] := by unfold stBody; rw [hnb]; rfl
            have cB1 := fun w => bodiless_any m ⟨#[71, 69, 84]⟩ w
            rw [show bodilessF m ⟨#[71, 69, 84]⟩ = false from (bodiless_get hc1.1).trans hnb] at cB1
            have cB2 := fun w => bodiless_any m ⟨#[72, 69, 65, 68]⟩ w
            rw [show bodilessF m ⟨#[72, 69, 65, 68]⟩ = true from bodiless_head m] at cB2
            rw [hbody] at K
            simp only at K
            clear hnb hbody hc1 h4 h5
            go_wp2_with fail
            refine K.mono ?_
            rintro _ w3 ⟨⟨vf, vb, rfl, hf3, hb3⟩, hs3⟩
            obtain ⟨fa, fc, rfl, _⟩ := rowF_shape hf3
            obtain ⟨ab, cb, rfl, _, _, _⟩ := hb3.shape
            rw [HBA.out, show twoF.length = 1 from rfl]
            simp only [List.length_cons, List.length_nil]
            have HS3 := Lib.hid (HS5.out.trans hs3)
            clear hf3 hb3 hs3 K
            go_wp2_with fail
            refine (cB1 _).mono ?_
            rintro _ w4 ⟨rfl, hw⟩
            replace hw := hw.symm
            subst hw
            go_wp2_with fail
            refine (cB2 _).mono ?_
            rintro _ w4 ⟨rfl, hw⟩
            replace hw := hw.symm
            subst hw
            go_wp2
            go_ret
            exact ⟨rfl, HS3.out.alloc _⟩
      · rw [if_neg hc1] at K
        unfold RspPost zeroR at K
        simp only at K
        by_cases h2 : m < 200
        · have d1 : decide ((m : Int) < 200) = true := by simp; omega
          go_wp2_with fail
          refine K.mono ?_
          rintro _ w3 ⟨rfl, hs3⟩
          go_wp2
          go_ret
          exact ⟨rfl, (HS5.out.trans hs3).alloc _⟩
        · have d1 : decide ((m : Int) < 200) = false := by simp; omega
          have d2 : decide ((599 : Int) < (m : Int)) = true := by simp; omega
          go_wp2_with fail
          refine K.mono ?_
          rintro _ w3 ⟨rfl, hs3⟩
          go_wp2
          go_ret
          exact ⟨rfl, (HS5.out.trans hs3).alloc _⟩
end Go.Proofs.YtjpmofnnjdhamaaDoor
