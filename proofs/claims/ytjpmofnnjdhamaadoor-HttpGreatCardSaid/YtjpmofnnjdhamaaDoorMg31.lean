/-
  HttpGreat.
-/
import Derived.Test.YtjpmofnnjdhamaaDoorMg23
import Derived.Test.YtjpmofnnjdhamaaDoorMg26
import Derived.Test.YtjpmofnnjdhamaaDoorMg27
import Derived.Test.YtjpmofnnjdhamaaDoorMg30
namespace Go.Proofs.YtjpmofnnjdhamaaDoor
open Go.RowKit HeadMath NormMath NormS HeadS ChunkMath HttpMath

def litR : Bs := okL ++ end4
set_option maxRecDepth 100000 in
set_option maxHeartbeats 16000000 in
theorem greatLaw_any (n k : Int) (w : World) (hn : -9223372036854775808 ≤ n ∧ n ≤ 9223372036854775807) (hk : -9223372036854775808 ≤ k ∧ k ≤ 9223372036854775807) (hM : MaxL w) :
    Calls Tryd.prog 3 #[.int .i64 n, .int .i64 k] w (KnowsH w) := by
  have K := knownH_any w hM
  have P1 := fun w => place_any n 5 w (by decide) (by decide) hn
  have P2 := fun w => place_any k 5 w (by decide) (by decide) hk
  have hcs := fun (W : World) (C : Array Value) (n c : Nat) => Lib.run_convert_bytes_const (P := Tryd.prog) W 24 5 C n c Tryd.underlying24 Tryd.underlying5
  unfold KnowsH at K ⊢
  have HM := Lib.hid hM
  clear hM hn hk
  go_enter Tryd.func3, Tryd.ntmps3
  go_wp2_with fail
  refine K.mono ?_
  rintro _ w1 ⟨rfl, hs1⟩
  have HS1 := Lib.hid hs1
  go_wp2_with fail
  refine (P1 _).mono ?_
  rintro _ w2 ⟨⟨m, hm, rfl⟩, hw⟩
  subst hw
  clear K P1 hs1
  obtain ⟨p, hp⟩ : ∃ p, 8158 + m = p := ⟨_, rfl⟩
  have hp5 : p ≤ 8162 := by omega
  have hp0 : 8158 ≤ p := by omega
  have HP5 := Lib.hid hp
  have hz28 : ({ data := #[71, 69, 84, 32, 47, 32, 72, 84, 84, 80, 47, 49, 46, 49, 13, 10, 72, 111, 115, 116, 58, 32, 104, 13, 10, 88, 58, 32] } : ByteArray).size = 28 := rfl
  have hmk := make_bytes p (by omega) w1
  have e0 : (8190 : Int) + (m : Int) - 28 - 4 = (p : Int) := by omega
  go_wp2
  obtain ⟨g, hg⟩ : ∃ g, w1.heap.size = g := ⟨_, rfl⟩
  have HG := Lib.hid hg
  have HC0 : Hid ((w1.alloc (.cells (bytesV (List.replicate p 0)) 5)).heap[g]? = some (.cells (bytesV (padL 0 ++ zerosL (p - 0))) 5 (0, 0))) := Lib.hid (by rw [← hg]; exact heap_alloc_new w1 _)
  have HS0 : Hid (Spares nowhere w (w1.alloc (.cells (bytesV (List.replicate p 0)) 5))) := Lib.hid (HS1.out.alloc _)
  rw [hg]
  clear hmk e0 hg hp
  go_loopw [8] (fun i wr => ∃ j : Nat, j ≤ p ∧ i = .int .i64 j ∧ Hid (wr.heap[g]? = some (.cells (bytesV (padL j ++ zerosL (p - j))) 5 (0, 0))) ∧ Hid (Spares nowhere w wr)) (fun i _ => p - (intOf i).toNat)
  case atStart => exact ⟨0, Nat.zero_le _, rfl, HC0, HS0⟩
  case round =>
    obtain ⟨j, hj, rfl, HC, HS⟩ := hrel
    by_cases hlt : j < p
    · have hzs : zerosL (p - j) = 0 :: zerosL (p - (j + 1)) := by
        unfold zerosL
        rw [show p - j = (p - (j + 1)) + 1 by omega, List.replicate_succ]
      have hpl : (padL j).length = j := by simp [padL]
      have hc := HC.out
      rw [hzs] at hc
      have x0 : wr.cell? ⟨g, j, none⟩ = some (.int .u8 0) := by
        rw [Lib.cell_of_heap hc, bytesV_get _ _ (by rw [List.length_append, hpl, List.length_cons]; omega), List.getD_eq_getElem?_getD, List.getElem?_append_right (by omega), hpl, Nat.sub_self]
        rfl
      have f0 := Lib.frozen_of_heap hc j
      have HC1 : Hid ((wr.setCell ⟨g, j, none⟩ (.int .u8 120)).heap[g]? = some (.cells (bytesV (padL (j + 1) ++ zerosL (p - (j + 1)))) 5 (0, 0))) := Lib.hid (by
        have h1 := set_at (i := j) hc (.int .u8 120)
        have h2 := bytesV_set (padL j) (zerosL (p - (j + 1))) 0 120
        rw [hpl] at h2
        rw [h1, show (Value.int IntKind.u8 120) = .int .u8 (120 : UInt8).toNat from rfl, h2]
        congr 2
        unfold padL
        rw [List.replicate_succ']
        simp)
      have HS2 : Hid (Spares nowhere w (wr.setCell ⟨g, j, none⟩ (.int .u8 120))) := Lib.hid (HS.out.setCell (p := ⟨g, j, none⟩) (.inr (by show w.heap.size ≤ g; rw [← HG.out]; exact HS1.out.size)) _)
      have i1 : (j : Int) < (p : Int) := by omega
      clear hzs hpl hc
      go_wp2
      go_roundw
      case rel => exact ⟨j + 1, by omega, by go_num, HC1, HS2⟩
      case measure => simp [intOf]; omega
    · obtain rfl : j = p := by omega
      have i1 : ¬ (j : Int) < (j : Int) := by omega
      have hat : BytesAt wr (some ⟨g, 0, none⟩) (padL j) := by
        have := bytesV_at HC.out
        rw [Nat.sub_self, show zerosL 0 = [] from rfl, List.append_nil] at this
        exact this
      have hpl : (padL j).length = j := by simp [padL]
      have hcvp := conv_bytes hat j
      rw [hpl] at hcvp
      obtain ⟨A, hA⟩ : ∃ A : ByteArray, (⟨(padL j).toArray⟩ : ByteArray) = A := ⟨_, rfl⟩
      rw [hA] at hcvp
      have hAd : A.data.toList = padL j := by rw [← hA]
      have hAs : A.size = j := by rw [← size_list, hAd, hpl]
      have hAs2 : A.size ≤ 8162 := by omega
      obtain ⟨X, hX⟩ : ∃ X : ByteArray, ({ data := #[71, 69, 84, 32, 47, 32, 72, 84, 84, 80, 47, 49, 46, 49, 13, 10, 72, 111, 115, 116, 58, 32, 104, 13, 10, 88, 58, 32] } : ByteArray) ++ A ++ { data := #[13, 10, 13, 10] } = X := ⟨_, rfl⟩
      have hXd : X.data.toList = sG ++ (padL j ++ end4) := by
        rw [← hX, ByteArray.data_append, ByteArray.data_append, Array.toList_append, Array.toList_append, hAd]
        simp [sG, end4]
      have hz4 : ({ data := #[13, 10, 13, 10] } : ByteArray).size = 4 := rfl
      have hXs : X.size ≤ 10000 := by rw [← hX, ByteArray.size_append, ByteArray.size_append, hz4, hz28]; omega
      have hQ := req_great j
      rw [← hXd] at hQ
      obtain ⟨c5, v5, hcv, hat5, hs5, hcap⟩ := conv_str wr X
      have HS5 := Lib.hid (HS.out.trans hs5)
      have KQ := request_any X.data.toList (some ⟨wr.heap.size, 0, none⟩) c5 X.size v5 (size_list X).symm hat5 (by rw [size_list]; exact hcap) (fun e => by cases e) (by rw [size_list]; omega) (HM.out.spares HS5.out)
      rw [hQ] at KQ
      have hj5 : j = 8158 + m := HP5.out.symm
      clear hXd hQ hat5 hs5 hcap HC HS hat hA hAd hAs hpl HC0 HS0 HG
      by_cases hbig : 8192 < 32 + j
      · rw [if_pos hbig] at KQ
        unfold ReqPost zeroQ at KQ
        simp only at KQ
        have d1 : (8192 : Int) < 8190 + (m : Int) := by omega
        clear hj5
        go_wp2_with fail
        refine KQ.mono ?_
        rintro _ w3 ⟨rfl, hs3⟩
        have HS3 := Lib.hid (HS5.out.trans hs3)
        clear KQ hs3
        go_wp2_with fail
        generalize hW : w3.alloc (.cells #[.string ⟨#[]⟩, .string ⟨#[]⟩, .slice none 0 0, .slice none 0 0] 27) = W
        have HSW : Hid (Spares nowhere w W) := Lib.hid (by rw [← hW]; exact HS3.out.alloc _)
        clear hW HS3 HS5
        refine (P2 _).mono ?_
        rintro _ w4 ⟨⟨t, ht, rfl⟩, hw⟩
        subst hw
        obtain ⟨b, hb⟩ : ∃ b, 65534 + t = b := ⟨_, rfl⟩
        have eb : (65534 : Int) + (t : Int) = (b : Int) := by omega
        have hb1 : 65534 ≤ b := by omega
        have hb2 : b ≤ 65538 := by omega
        have hb0 : 0 < b := by omega
        clear hb ht
        have hT : RowT W.heap.size (W.alloc (.cells #[.int .u8 72, .int .u8 84, .int .u8 84, .int .u8 80, .int .u8 47, .int .u8 49, .int .u8 46, .int .u8 49, .int .u8 32, .int .u8 50, .int .u8 48, .int .u8 48, .int .u8 32, .int .u8 79, .int .u8 75, .int .u8 13, .int .u8 10, .int .u8 13, .int .u8 10] 5 (19, 20))) (.slice (some ⟨W.heap.size, 0, none⟩) 19 19) litR := rowT_lit W litR (by decide)
        have HT := Lib.hid hT
        obtain ⟨f1, f2, f3, f4⟩ := dec_five hb1 hb2
        obtain ⟨pn, hRP⟩ := req_put f1 f2 f3 f4
        have hRR := rsp_great b
        have cDec := fun w => dec_any (b + 1) b w (by omega) (by omega)
        unfold DecPost at cDec
        obtain ⟨D, hD⟩ : ∃ D, Lib.decDigits b = D := ⟨_, rfl⟩
        rw [hD] at cDec hRP f3
        obtain ⟨DB, hDB⟩ : ∃ DB : ByteArray, (⟨D.toArray⟩ : ByteArray) = DB := ⟨_, rfl⟩
        rw [hDB] at cDec
        have hDs : DB.size ≤ 20 := by rw [← hDB]; show D.toArray.size ≤ 20; simpa using f3
        obtain ⟨Y, hY⟩ : ∃ Y : ByteArray, ({ data := #[80, 85, 84, 32, 47, 32, 72, 84, 84, 80, 47, 49, 46, 49, 13, 10, 72, 111, 115, 116, 58, 32, 104, 13, 10, 67, 111, 110, 116, 101, 110, 116, 45, 76, 101, 110, 103, 116, 104, 58, 32] } : ByteArray) ++ DB ++ { data := #[13, 10, 13, 10] } = Y := ⟨_, rfl⟩
        have hYd : Y.data.toList = sP ++ (D ++ end4) := by
          rw [← hY, ByteArray.data_append, ByteArray.data_append, Array.toList_append, Array.toList_append, ← hDB]
          simp [sP, end4]
        have hz41 : ({ data := #[80, 85, 84, 32, 47, 32, 72, 84, 84, 80, 47, 49, 46, 49, 13, 10, 72, 111, 115, 116, 58, 32, 104, 13, 10, 67, 111, 110, 116, 101, 110, 116, 45, 76, 101, 110, 103, 116, 104, 58, 32] } : ByteArray).size = 41 := rfl
        have hYs : Y.size ≤ 70 := by rw [← hY, ByteArray.size_append, ByteArray.size_append, hz4, hz41]; omega
        obtain ⟨y10, hy10⟩ : ∃ y10, (sP ++ (D ++ (end4 ++ List.replicate b 0))).length = y10 := ⟨_, rfl⟩
        have hy10b : y10 ≤ 1000000 := by
          rw [← hy10]
          simp only [List.length_append, List.length_replicate]
          rw [show sP.length = 41 from rfl, show end4.length = 4 from rfl]
          omega
        have HYD := Lib.hid hYd
        have HRP := Lib.hid hRP
        have HRR := Lib.hid hRR
        have HY10 := Lib.hid hy10
        have HD3 := Lib.hid f3
        clear f1 f2 f3 f4 hD hDB hT hYd hRP hRR hy10 P2
        go_wp2_with (at_builtin; refine wpList_tail_zeros rfl _ _ rfl W.heap.size _ litR rfl HT.out b hb0 rfl ?c1V ?c2V ?_)
        case c1V => rw [show litR.length = 19 from rfl]; omega
        case c2V => simp
        intro v5 w5 hrow5 hgrow5
        have HS5' : Hid (Spares nowhere w w5) := Lib.hid ((HSW.out.alloc _).grown hgrow5 (fun k hk => .inr (Nat.le_trans HSW.out.size (HT.out.own k hk))))
        obtain ⟨g5, c5', rfl, _, hat5', hl5⟩ := hrow5.shape
        have hlen5 : (litR ++ List.replicate b 0).length = 19 + b := by rw [List.length_append, List.length_replicate]; rfl
        rw [hlen5] at hl5 ⊢
        have heq5 : litR ++ List.replicate b 0 = okL ++ (end4 ++ zerosL b) := by unfold zerosL litR; simp
        rw [heq5] at hat5' hlen5
        have KR := response_any (okL ++ (end4 ++ zerosL b)) ⟨#[71, 69, 84]⟩ (some ⟨g5, 0, none⟩) c5' (19 + b) w5 hlen5.symm hat5' (by rw [hlen5]; exact hl5) (fun e => by cases e) (by rw [hlen5]; omega) (HM.out.spares HS5'.out)
        rw [show responseF (okL ++ (end4 ++ zerosL b)) ⟨#[71, 69, 84]⟩ = if 65536 < b then .error 93 else .ok (200, [79, 75], [], zerosL b) from HRR.out] at KR
        clear hrow5 hgrow5 hat5' hl5 heq5 hlen5 HT HRR
        by_cases hb65 : 65536 < b
        · rw [if_pos hb65] at KR
          unfold RspPost zeroR at KR
          simp only at KR
          have d2 : (65536 : Int) < (b : Int) := by omega
          go_wp2_with fail
          refine KR.mono ?_
          rintro _ w7 ⟨rfl, hs7⟩
          have HS7' : Hid (Spares nowhere w (w7.alloc (.cells #[.int .i64 0, .string ⟨#[]⟩, .slice none 0 0, .slice none 0 0] 32))) := Lib.hid ((HS5'.out.trans hs7).alloc _)
          clear KR hs7
          go_wp2_with fail
          generalize w7.alloc (.cells #[.int .i64 0, .string ⟨#[]⟩, .slice none 0 0, .slice none 0 0] 32) = W7 at HS7' ⊢
          have HS7 := Lib.hid HS7'.out
          refine (cDec _).mono ?_
          rintro _ w8 ⟨rfl, hw⟩
          replace hw := hw.symm
          subst hw
          obtain ⟨v9, w9, hcv9, hT9, hs9⟩ := rowT_conv W7 Y (by unfold maxLen; omega)
          rw [HYD.out] at hT9
          have HT9 := Lib.hid hT9
          have HS9 := Lib.hid hs9
          clear hT9 hs9
          go_wp2_with (at_builtin; refine wpList_tail_zeros rfl _ _ rfl W7.heap.size _ _ rfl HT9.out b hb0 rfl ?c1U ?c2U ?_)
          case c1U =>
            have h1 := HD3.out
            simp only [List.length_append]
            rw [show sP.length = 41 from rfl, show end4.length = 4 from rfl]
            omega
          case c2U => exact HS9.out.size
          intro v10 w10 hrow10 hgrow10
          have hs10 : Spares nowhere W7 w10 := HS9.out.grown hgrow10 (fun k hk => .inr (HT9.out.own k hk))
          have HS10 : Hid (Spares nowhere w w10) := Lib.hid (HS7.out.trans hs10)
          obtain ⟨g10, c10, rfl, _, hat10, hl10⟩ := hrow10.shape
          have hlen10 := HY10.out
          try rw [List.append_assoc sP, List.append_assoc D] at hl10
          try rw [List.append_assoc sP, List.append_assoc D] at hat10
          try rw [List.append_assoc sP, List.append_assoc D]
          rw [hlen10] at hl10 ⊢
          have heq : sP ++ (D ++ (end4 ++ List.replicate b 0)) = sP ++ (D ++ (end4 ++ zerosL b)) := rfl
          rw [heq] at hat10 hlen10
          have KP := request_any (sP ++ (D ++ (end4 ++ zerosL b))) (some ⟨g10, 0, none⟩) c10 y10 w10 hlen10.symm hat10 (by rw [hlen10]; exact hl10) (fun e => by cases e) (by rw [hlen10]; exact hy10b) (HM.out.spares HS10.out)
          rw [HRP.out] at KP
          rw [if_pos hb65] at KP
          unfold ReqPost zeroQ at KP
          simp only at KP
          clear hrow10 hgrow10 hat10 hl10 heq hlen10 HT9 hcv9 hs10 hb65
          go_wp2_with fail
          refine KP.mono ?_
          rintro _ w11 ⟨rfl, hs11⟩
          have HS11 := Lib.hid ((HS10.out.trans hs11).alloc (.cells #[.string ⟨#[]⟩, .string ⟨#[]⟩, .slice none 0 0, .slice none 0 0] 27))
          clear KP hs11
          go_wp2
          go_ret
          exact ⟨rfl, HS11.out⟩
        · rw [if_neg hb65] at KR
          unfold RspPost rspV at KR
          simp only at KR
          have d2 : ¬ (65536 : Int) < (b : Int) := by omega
          go_wp2_with fail
          refine KR.mono ?_
          rintro _ w7 ⟨⟨vf7, vb7, rfl, hf7, hbb7⟩, hs7⟩
          obtain ⟨fa7, fc7, rfl, _⟩ := rowF_shape hf7
          obtain ⟨ab7, cb7, rfl, _, _, _⟩ := hbb7.shape
          rw [show ba [79, 75] = ⟨#[79, 75]⟩ from rfl, show ([] : Fs).length = 0 from rfl, show (zerosL b).length = b from by simp [zerosL]]
          have HS7' : Hid (Spares nowhere w (w7.alloc (.cells #[.int .i64 200, .string ⟨#[79, 75]⟩, .slice fa7 0 fc7, .slice ab7 b cb7] 32))) := Lib.hid ((HS5'.out.trans hs7).alloc _)
          have HB7' : Hid ((w7.alloc (.cells #[.int .i64 200, .string ⟨#[79, 75]⟩, .slice fa7 0 fc7, .slice ab7 b cb7] 32)).heap[w7.heap.size]? = some (.cells #[.int .i64 200, .string ⟨#[79, 75]⟩, .slice fa7 0 fc7, .slice ab7 b cb7] 32 (0, 0))) := Lib.hid (heap_alloc_new _ _)
          clear KR hs7 hf7 hbb7
          go_wp2_with fail
          generalize w7.alloc (.cells #[.int .i64 200, .string ⟨#[79, 75]⟩, .slice fa7 0 fc7, .slice ab7 b cb7] 32) = W7 at HS7' HB7' ⊢
          generalize w7.heap.size = g7 at HB7' ⊢
          have HS7 := Lib.hid HS7'.out
          have HB7 := Lib.hid HB7'.out
          refine (cDec _).mono ?_
          rintro _ w8 ⟨rfl, hw⟩
          replace hw := hw.symm
          subst hw
          obtain ⟨v9, w9, hcv9, hT9, hs9⟩ := rowT_conv W7 Y (by unfold maxLen; omega)
          rw [HYD.out] at hT9
          have HT9 := Lib.hid hT9
          have HS9 := Lib.hid hs9
          clear hT9 hs9
          go_wp2_with (at_builtin; refine wpList_tail_zeros rfl _ _ rfl W7.heap.size _ _ rfl HT9.out b hb0 rfl ?c1U ?c2U ?_)
          case c1U =>
            have h1 := HD3.out
            simp only [List.length_append]
            rw [show sP.length = 41 from rfl, show end4.length = 4 from rfl]
            omega
          case c2U => exact HS9.out.size
          intro v10 w10 hrow10 hgrow10
          have hs10 : Spares nowhere W7 w10 := HS9.out.grown hgrow10 (fun k hk => .inr (HT9.out.own k hk))
          have HS10 : Hid (Spares nowhere w w10) := Lib.hid (HS7.out.trans hs10)
          obtain ⟨g10, c10, rfl, _, hat10, hl10⟩ := hrow10.shape
          have hlen10 := HY10.out
          try rw [List.append_assoc sP, List.append_assoc D] at hl10
          try rw [List.append_assoc sP, List.append_assoc D] at hat10
          try rw [List.append_assoc sP, List.append_assoc D]
          rw [hlen10] at hl10 ⊢
          have heq : sP ++ (D ++ (end4 ++ List.replicate b 0)) = sP ++ (D ++ (end4 ++ zerosL b)) := rfl
          rw [heq] at hat10 hlen10
          have KP := request_any (sP ++ (D ++ (end4 ++ zerosL b))) (some ⟨g10, 0, none⟩) c10 y10 w10 hlen10.symm hat10 (by rw [hlen10]; exact hl10) (fun e => by cases e) (by rw [hlen10]; exact hy10b) (HM.out.spares HS10.out)
          rw [HRP.out] at KP
          rw [if_neg hb65] at KP
          unfold ReqPost reqV at KP
          simp only at KP
          have HB10 := Lib.hid (hs10.heap HB7.out (fun h => h))
          clear hrow10 hgrow10 hat10 hl10 heq hlen10 HT9 hcv9 hs10 hb65 HB7
          go_wp2_with fail
          refine KP.mono ?_
          rintro _ w11 ⟨⟨vf11, vb11, rfl, hf11, hbb11⟩, hs11⟩
          obtain ⟨fa11, fc11, rfl, _⟩ := rowF_shape hf11
          obtain ⟨ab11, cb11, rfl, _, _, _⟩ := hbb11.shape
          rw [show ba [80, 85, 84] = ⟨#[80, 85, 84]⟩ from rfl, show ba [47] = ⟨#[47]⟩ from rfl, show ([hostFi, clF D] : Fs).length = 2 from rfl, show (zerosL b).length = b from by simp [zerosL]]
          obtain ⟨v12, hv12⟩ : ∃ v12, w11.alloc (.cells #[.string ⟨#[80, 85, 84]⟩, .string ⟨#[47]⟩, .slice fa11 2 fc11, .slice ab11 b cb11] 27) = v12 := ⟨_, rfl⟩
          have HS12 : Hid (Spares nowhere w v12) := Lib.hid (by rw [← hv12]; exact (HS10.out.trans hs11).alloc _)
          have hA12 : v12.heap[g7]? = some (.cells #[.int .i64 200, .string ⟨#[79, 75]⟩, .slice fa7 0 fc7, .slice ab7 b cb7] 32 (0, 0)) := by
            rw [← hv12]
            exact ((Spares.refl nowhere w11).alloc _).heap (hs11.heap HB10.out (fun h => h)) (fun h => h)
          have x3 : v12.cell? ⟨g7, 3, none⟩ = some (.slice ab7 b cb7) := (Lib.cell_of_heap hA12 3).trans rfl
          have e6 : ((b : Int) == (b : Int)) = true := by simp
          clear hA12 KP hs11 hf11 hbb11
          go_wp2
          go_ret
          exact ⟨rfl, HS12.out⟩
      · rw [if_neg hbig] at KQ
        unfold ReqPost reqV at KQ
        simp only at KQ
        have d1 : ¬ (8192 : Int) < 8190 + (m : Int) := by omega
        have ez : ((32 + j : Nat) : Int) = 8190 + (m : Int) := by omega
        rw [ez] at KQ
        have d3 : ((8190 + (m : Int)) != (8190 + (m : Int))) = false := by simp
        clear hj5 ez
        go_wp2_with fail
        refine KQ.mono ?_
        rintro _ w3 ⟨⟨vf, vb, rfl, hf3, hb3⟩, hs3⟩
        have HS3 := Lib.hid (HS5.out.trans hs3)
        obtain ⟨fa, fc, rfl, _⟩ := rowF_shape hf3
        obtain ⟨ab, cb, rfl, _, _, _⟩ := hb3.shape
        rw [show ba [71, 69, 84] = ⟨#[71, 69, 84]⟩ from rfl, show ba [47] = ⟨#[47]⟩ from rfl, show ([hostFi, xF j] : Fs).length = 2 from rfl, show ([] : Bs).length = 0 from rfl]
        have x2 : (w3.alloc (.cells #[.string ⟨#[71, 69, 84]⟩, .string ⟨#[47]⟩, .slice fa 2 fc, .slice ab 0 cb] 27)).cell? ⟨w3.heap.size, 2, none⟩ = some (.slice fa 2 fc) := (Lib.cell_of_heap (heap_alloc_new w3 _) 2).trans rfl
        clear KQ hs3 hf3 hb3
        go_wp2_with fail
        generalize hW : w3.alloc (.cells #[.string ⟨#[71, 69, 84]⟩, .string ⟨#[47]⟩, .slice fa 2 fc, .slice ab 0 cb] 27) = W
        have HSW : Hid (Spares nowhere w W) := Lib.hid (by rw [← hW]; exact HS3.out.alloc _)
        clear hW HS3 HS5 x2
        refine (P2 _).mono ?_
        rintro _ w4 ⟨⟨t, ht, rfl⟩, hw⟩
        subst hw
        obtain ⟨b, hb⟩ : ∃ b, 65534 + t = b := ⟨_, rfl⟩
        have eb : (65534 : Int) + (t : Int) = (b : Int) := by omega
        have hb1 : 65534 ≤ b := by omega
        have hb2 : b ≤ 65538 := by omega
        have hb0 : 0 < b := by omega
        clear hb ht
        have hT : RowT W.heap.size (W.alloc (.cells #[.int .u8 72, .int .u8 84, .int .u8 84, .int .u8 80, .int .u8 47, .int .u8 49, .int .u8 46, .int .u8 49, .int .u8 32, .int .u8 50, .int .u8 48, .int .u8 48, .int .u8 32, .int .u8 79, .int .u8 75, .int .u8 13, .int .u8 10, .int .u8 13, .int .u8 10] 5 (19, 20))) (.slice (some ⟨W.heap.size, 0, none⟩) 19 19) litR := rowT_lit W litR (by decide)
        have HT := Lib.hid hT
        obtain ⟨f1, f2, f3, f4⟩ := dec_five hb1 hb2
        obtain ⟨pn, hRP⟩ := req_put f1 f2 f3 f4
        have hRR := rsp_great b
        have cDec := fun w => dec_any (b + 1) b w (by omega) (by omega)
        unfold DecPost at cDec
        obtain ⟨D, hD⟩ : ∃ D, Lib.decDigits b = D := ⟨_, rfl⟩
        rw [hD] at cDec hRP f3
        obtain ⟨DB, hDB⟩ : ∃ DB : ByteArray, (⟨D.toArray⟩ : ByteArray) = DB := ⟨_, rfl⟩
        rw [hDB] at cDec
        have hDs : DB.size ≤ 20 := by rw [← hDB]; show D.toArray.size ≤ 20; simpa using f3
        obtain ⟨Y, hY⟩ : ∃ Y : ByteArray, ({ data := #[80, 85, 84, 32, 47, 32, 72, 84, 84, 80, 47, 49, 46, 49, 13, 10, 72, 111, 115, 116, 58, 32, 104, 13, 10, 67, 111, 110, 116, 101, 110, 116, 45, 76, 101, 110, 103, 116, 104, 58, 32] } : ByteArray) ++ DB ++ { data := #[13, 10, 13, 10] } = Y := ⟨_, rfl⟩
        have hYd : Y.data.toList = sP ++ (D ++ end4) := by
          rw [← hY, ByteArray.data_append, ByteArray.data_append, Array.toList_append, Array.toList_append, ← hDB]
          simp [sP, end4]
        have hz41 : ({ data := #[80, 85, 84, 32, 47, 32, 72, 84, 84, 80, 47, 49, 46, 49, 13, 10, 72, 111, 115, 116, 58, 32, 104, 13, 10, 67, 111, 110, 116, 101, 110, 116, 45, 76, 101, 110, 103, 116, 104, 58, 32] } : ByteArray).size = 41 := rfl
        have hYs : Y.size ≤ 70 := by rw [← hY, ByteArray.size_append, ByteArray.size_append, hz4, hz41]; omega
        obtain ⟨y10, hy10⟩ : ∃ y10, (sP ++ (D ++ (end4 ++ List.replicate b 0))).length = y10 := ⟨_, rfl⟩
        have hy10b : y10 ≤ 1000000 := by
          rw [← hy10]
          simp only [List.length_append, List.length_replicate]
          rw [show sP.length = 41 from rfl, show end4.length = 4 from rfl]
          omega
        have HYD := Lib.hid hYd
        have HRP := Lib.hid hRP
        have HRR := Lib.hid hRR
        have HY10 := Lib.hid hy10
        have HD3 := Lib.hid f3
        clear f1 f2 f3 f4 hD hDB hT hYd hRP hRR hy10 P2
        go_wp2_with (at_builtin; refine wpList_tail_zeros rfl _ _ rfl W.heap.size _ litR rfl HT.out b hb0 rfl ?c1V ?c2V ?_)
        case c1V => rw [show litR.length = 19 from rfl]; omega
        case c2V => simp
        intro v5 w5 hrow5 hgrow5
        have HS5' : Hid (Spares nowhere w w5) := Lib.hid ((HSW.out.alloc _).grown hgrow5 (fun k hk => .inr (Nat.le_trans HSW.out.size (HT.out.own k hk))))
        obtain ⟨g5, c5', rfl, _, hat5', hl5⟩ := hrow5.shape
        have hlen5 : (litR ++ List.replicate b 0).length = 19 + b := by rw [List.length_append, List.length_replicate]; rfl
        rw [hlen5] at hl5 ⊢
        have heq5 : litR ++ List.replicate b 0 = okL ++ (end4 ++ zerosL b) := by unfold zerosL litR; simp
        rw [heq5] at hat5' hlen5
        have KR := response_any (okL ++ (end4 ++ zerosL b)) ⟨#[71, 69, 84]⟩ (some ⟨g5, 0, none⟩) c5' (19 + b) w5 hlen5.symm hat5' (by rw [hlen5]; exact hl5) (fun e => by cases e) (by rw [hlen5]; omega) (HM.out.spares HS5'.out)
        rw [show responseF (okL ++ (end4 ++ zerosL b)) ⟨#[71, 69, 84]⟩ = if 65536 < b then .error 93 else .ok (200, [79, 75], [], zerosL b) from HRR.out] at KR
        clear hrow5 hgrow5 hat5' hl5 heq5 hlen5 HT HRR
        by_cases hb65 : 65536 < b
        · rw [if_pos hb65] at KR
          unfold RspPost zeroR at KR
          simp only at KR
          have d2 : (65536 : Int) < (b : Int) := by omega
          go_wp2_with fail
          refine KR.mono ?_
          rintro _ w7 ⟨rfl, hs7⟩
          have HS7' : Hid (Spares nowhere w (w7.alloc (.cells #[.int .i64 0, .string ⟨#[]⟩, .slice none 0 0, .slice none 0 0] 32))) := Lib.hid ((HS5'.out.trans hs7).alloc _)
          clear KR hs7
          go_wp2_with fail
          generalize w7.alloc (.cells #[.int .i64 0, .string ⟨#[]⟩, .slice none 0 0, .slice none 0 0] 32) = W7 at HS7' ⊢
          have HS7 := Lib.hid HS7'.out
          refine (cDec _).mono ?_
          rintro _ w8 ⟨rfl, hw⟩
          replace hw := hw.symm
          subst hw
          obtain ⟨v9, w9, hcv9, hT9, hs9⟩ := rowT_conv W7 Y (by unfold maxLen; omega)
          rw [HYD.out] at hT9
          have HT9 := Lib.hid hT9
          have HS9 := Lib.hid hs9
          clear hT9 hs9
          go_wp2_with (at_builtin; refine wpList_tail_zeros rfl _ _ rfl W7.heap.size _ _ rfl HT9.out b hb0 rfl ?c1U ?c2U ?_)
          case c1U =>
            have h1 := HD3.out
            simp only [List.length_append]
            rw [show sP.length = 41 from rfl, show end4.length = 4 from rfl]
            omega
          case c2U => exact HS9.out.size
          intro v10 w10 hrow10 hgrow10
          have hs10 : Spares nowhere W7 w10 := HS9.out.grown hgrow10 (fun k hk => .inr (HT9.out.own k hk))
          have HS10 : Hid (Spares nowhere w w10) := Lib.hid (HS7.out.trans hs10)
          obtain ⟨g10, c10, rfl, _, hat10, hl10⟩ := hrow10.shape
          have hlen10 := HY10.out
          try rw [List.append_assoc sP, List.append_assoc D] at hl10
          try rw [List.append_assoc sP, List.append_assoc D] at hat10
          try rw [List.append_assoc sP, List.append_assoc D]
          rw [hlen10] at hl10 ⊢
          have heq : sP ++ (D ++ (end4 ++ List.replicate b 0)) = sP ++ (D ++ (end4 ++ zerosL b)) := rfl
          rw [heq] at hat10 hlen10
          have KP := request_any (sP ++ (D ++ (end4 ++ zerosL b))) (some ⟨g10, 0, none⟩) c10 y10 w10 hlen10.symm hat10 (by rw [hlen10]; exact hl10) (fun e => by cases e) (by rw [hlen10]; exact hy10b) (HM.out.spares HS10.out)
          rw [HRP.out] at KP
          rw [if_pos hb65] at KP
          unfold ReqPost zeroQ at KP
          simp only at KP
          clear hrow10 hgrow10 hat10 hl10 heq hlen10 HT9 hcv9 hs10 hb65
          go_wp2_with fail
          refine KP.mono ?_
          rintro _ w11 ⟨rfl, hs11⟩
          have HS11 := Lib.hid ((HS10.out.trans hs11).alloc (.cells #[.string ⟨#[]⟩, .string ⟨#[]⟩, .slice none 0 0, .slice none 0 0] 27))
          clear KP hs11
          go_wp2
          go_ret
          exact ⟨rfl, HS11.out⟩
        · rw [if_neg hb65] at KR
          unfold RspPost rspV at KR
          simp only at KR
          have d2 : ¬ (65536 : Int) < (b : Int) := by omega
          go_wp2_with fail
          refine KR.mono ?_
          rintro _ w7 ⟨⟨vf7, vb7, rfl, hf7, hbb7⟩, hs7⟩
          obtain ⟨fa7, fc7, rfl, _⟩ := rowF_shape hf7
          obtain ⟨ab7, cb7, rfl, _, _, _⟩ := hbb7.shape
          rw [show ba [79, 75] = ⟨#[79, 75]⟩ from rfl, show ([] : Fs).length = 0 from rfl, show (zerosL b).length = b from by simp [zerosL]]
          have HS7' : Hid (Spares nowhere w (w7.alloc (.cells #[.int .i64 200, .string ⟨#[79, 75]⟩, .slice fa7 0 fc7, .slice ab7 b cb7] 32))) := Lib.hid ((HS5'.out.trans hs7).alloc _)
          have HB7' : Hid ((w7.alloc (.cells #[.int .i64 200, .string ⟨#[79, 75]⟩, .slice fa7 0 fc7, .slice ab7 b cb7] 32)).heap[w7.heap.size]? = some (.cells #[.int .i64 200, .string ⟨#[79, 75]⟩, .slice fa7 0 fc7, .slice ab7 b cb7] 32 (0, 0))) := Lib.hid (heap_alloc_new _ _)
          clear KR hs7 hf7 hbb7
          go_wp2_with fail
          generalize w7.alloc (.cells #[.int .i64 200, .string ⟨#[79, 75]⟩, .slice fa7 0 fc7, .slice ab7 b cb7] 32) = W7 at HS7' HB7' ⊢
          generalize w7.heap.size = g7 at HB7' ⊢
          have HS7 := Lib.hid HS7'.out
          have HB7 := Lib.hid HB7'.out
          refine (cDec _).mono ?_
          rintro _ w8 ⟨rfl, hw⟩
          replace hw := hw.symm
          subst hw
          obtain ⟨v9, w9, hcv9, hT9, hs9⟩ := rowT_conv W7 Y (by unfold maxLen; omega)
          rw [HYD.out] at hT9
          have HT9 := Lib.hid hT9
          have HS9 := Lib.hid hs9
          clear hT9 hs9
          go_wp2_with (at_builtin; refine wpList_tail_zeros rfl _ _ rfl W7.heap.size _ _ rfl HT9.out b hb0 rfl ?c1U ?c2U ?_)
          case c1U =>
            have h1 := HD3.out
            simp only [List.length_append]
            rw [show sP.length = 41 from rfl, show end4.length = 4 from rfl]
            omega
          case c2U => exact HS9.out.size
          intro v10 w10 hrow10 hgrow10
          have hs10 : Spares nowhere W7 w10 := HS9.out.grown hgrow10 (fun k hk => .inr (HT9.out.own k hk))
          have HS10 : Hid (Spares nowhere w w10) := Lib.hid (HS7.out.trans hs10)
          obtain ⟨g10, c10, rfl, _, hat10, hl10⟩ := hrow10.shape
          have hlen10 := HY10.out
          try rw [List.append_assoc sP, List.append_assoc D] at hl10
          try rw [List.append_assoc sP, List.append_assoc D] at hat10
          try rw [List.append_assoc sP, List.append_assoc D]
          rw [hlen10] at hl10 ⊢
          have heq : sP ++ (D ++ (end4 ++ List.replicate b 0)) = sP ++ (D ++ (end4 ++ zerosL b)) := rfl
          rw [heq] at hat10 hlen10
          have KP := request_any (sP ++ (D ++ (end4 ++ zerosL b))) (some ⟨g10, 0, none⟩) c10 y10 w10 hlen10.symm hat10 (by rw [hlen10]; exact hl10) (fun e => by cases e) (by rw [hlen10]; exact hy10b) (HM.out.spares HS10.out)
          rw [HRP.out] at KP
          rw [if_neg hb65] at KP
          unfold ReqPost reqV at KP
          simp only at KP
          have HB10 := Lib.hid (hs10.heap HB7.out (fun h => h))
          clear hrow10 hgrow10 hat10 hl10 heq hlen10 HT9 hcv9 hs10 hb65 HB7
          go_wp2_with fail
          refine KP.mono ?_
          rintro _ w11 ⟨⟨vf11, vb11, rfl, hf11, hbb11⟩, hs11⟩
          obtain ⟨fa11, fc11, rfl, _⟩ := rowF_shape hf11
          obtain ⟨ab11, cb11, rfl, _, _, _⟩ := hbb11.shape
          rw [show ba [80, 85, 84] = ⟨#[80, 85, 84]⟩ from rfl, show ba [47] = ⟨#[47]⟩ from rfl, show ([hostFi, clF D] : Fs).length = 2 from rfl, show (zerosL b).length = b from by simp [zerosL]]
          obtain ⟨v12, hv12⟩ : ∃ v12, w11.alloc (.cells #[.string ⟨#[80, 85, 84]⟩, .string ⟨#[47]⟩, .slice fa11 2 fc11, .slice ab11 b cb11] 27) = v12 := ⟨_, rfl⟩
          have HS12 : Hid (Spares nowhere w v12) := Lib.hid (by rw [← hv12]; exact (HS10.out.trans hs11).alloc _)
          have hA12 : v12.heap[g7]? = some (.cells #[.int .i64 200, .string ⟨#[79, 75]⟩, .slice fa7 0 fc7, .slice ab7 b cb7] 32 (0, 0)) := by
            rw [← hv12]
            exact ((Spares.refl nowhere w11).alloc _).heap (hs11.heap HB10.out (fun h => h)) (fun h => h)
          have x3 : v12.cell? ⟨g7, 3, none⟩ = some (.slice ab7 b cb7) := (Lib.cell_of_heap hA12 3).trans rfl
          have e6 : ((b : Int) == (b : Int)) = true := by simp
          clear hA12 KP hs11 hf11 hbb11
          go_wp2
          go_ret
          exact ⟨rfl, HS12.out⟩
end Go.Proofs.YtjpmofnnjdhamaaDoor
