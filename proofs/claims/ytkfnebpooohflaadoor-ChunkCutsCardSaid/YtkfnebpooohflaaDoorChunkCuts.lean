/-
  ChunkCuts' walk.
-/
import Derived.Test.YtkfnebpooohflaaDoorChunkBack
import Derived.Test.YtkfnebpooohflaaDoorChunkCutsMath
import Derived.Test.YtkfnebpooohflaaDoorCodeCuts
import Derived.Test.YtkfnebpooohflaaDoorHeadRefStrs
namespace Go.Proofs.YtkfnebpooohflaaDoor
open Go.RowKit HeadMath NormMath NormS HeadS ChunkMath

theorem tailS_list (ext name value : ByteArray) : ((((((⟨#[48, 48, 59]⟩ ++ ext) ++ ⟨#[13, 10]⟩) ++ name) ++ ⟨#[58, 32]⟩) ++ value) ++ ⟨#[13, 10, 13, 10]⟩ : ByteArray).data.toList = tailF ext name value := by
  simp [tailF, ByteArray.data_append]
set_option maxRecDepth 100000 in
set_option maxHeartbeats 8000000 in
theorem cuts_any (a : Option Addr) (c : Nat) (body : Bs) (size pl : Int) (ext name value : ByteArray) (w : World) (hb : BytesAt w a body) (hc : body.length ≤ c) (hz : body.length ≤ 9223372036854775807) (hpl : -9223372036854775808 ≤ pl ∧ pl ≤ 9223372036854775807) (y1 : ext.size ≤ 140737488351232) (y2 : name.size ≤ 140737488351232) (y3 : value.size ≤ 140737488351232) (hT : TabZ w) : Calls Tryd.prog 4 #[.slice a body.length c, .int .i64 size, .int .i64 pl, .string ext, .string name, .string value] w (Knows w) := by
  have HK := Lib.hid (known_any w hT)
  have HT := Lib.hid hT
  have HB := Lib.hid hb
  have HC := Lib.hid hc
  have HPL := Lib.hid hpl
  obtain ⟨S, hS⟩ : ∃ S : Nat, (S : Int) = max size 1 := ⟨(max size 1).toNat, by omega⟩
  have HS0 := Lib.hid hS
  have HS1 : Hid (1 ≤ S) := Lib.hid (by omega)
  have CT := Lib.hid (fun W => refText_any ext W y1)
  have CN := Lib.hid (fun W => refToken_any name W y2)
  have CV := Lib.hid (fun W => refValue_any value W y3)
  obtain ⟨bl, hbl⟩ : ∃ bl, body.length = bl := ⟨_, rfl⟩
  have HBL := Lib.hid hbl
  rw [hbl] at hc hz ⊢
  unfold Knows at HK ⊢
  clear hT hb hc hS hpl hbl
  go_enter Tryd.func4, Tryd.ntmps4
  go_wp2_with fail
  refine HK.out.mono ?_
  rintro e w1 ⟨rfl, hs1⟩
  have HW1 := Lib.hid hs1
  clear hs1 HK
  by_cases l1 : (500 : Int) < (bl : Int)
  · go_wp2
    go_ret
    exact ⟨rfl, HW1.out⟩
  by_cases l2 : (50 : Int) < (ext.size : Int)
  · go_wp2
    go_ret
    exact ⟨rfl, HW1.out⟩
  by_cases l3 : (50 : Int) < (name.size : Int)
  · go_wp2
    go_ret
    exact ⟨rfl, HW1.out⟩
  by_cases l4 : (50 : Int) < (value.size : Int)
  · go_wp2
    go_ret
    exact ⟨rfl, HW1.out⟩
  have cT := CT.out w1
  cases ht : textF ext with
  | false =>
    rw [ht] at cT
    clear ht
    go_wp2_with fail
    refine cT.mono ?_
    rintro e w2 ⟨rfl, hw⟩
    subst hw
    go_wp2
    go_ret
    exact ⟨rfl, HW1.out⟩
  | true =>
    rw [ht] at cT
    have HTX := Lib.hid ht
    clear ht
    go_wp2_with fail
    refine cT.mono ?_
    rintro e w2 ⟨rfl, hw⟩
    subst hw
    have cN := CN.out w1
    cases hn : tokenF name.data.toList with
    | false =>
      rw [hn] at cN
      clear hn
      go_wp2_with fail
      refine cN.mono ?_
      rintro e w2 ⟨rfl, hw⟩
      subst hw
      go_wp2
      go_ret
      exact ⟨rfl, HW1.out⟩
    | true =>
      rw [hn] at cN
      have HNX := Lib.hid hn
      clear hn
      go_wp2_with fail
      refine cN.mono ?_
      rintro e w2 ⟨rfl, hw⟩
      subst hw
      have cV := CV.out w1
      cases hv : valueF value.data.toList with
      | false =>
        rw [hv] at cV
        clear hv
        go_wp2_with fail
        refine cV.mono ?_
        rintro e w2 ⟨rfl, hw⟩
        subst hw
        go_wp2
        go_ret
        exact ⟨rfl, HW1.out⟩
      | true =>
        rw [hv] at cV
        have HVX := Lib.hid hv
        clear hv cT cN CT CN CV
        have cB := cbytes_any a c body size S w1 (HB.out.spares HW1.out (fun _ _ _ h => h)) HC.out (by have := HBL.out; omega) HS0.out (HT.out.spares HW1.out)
        have HOP : Hid (openF fieldB (preG S body.length body ++ tailF ext name value) = .ok (body, [])) := Lib.hid (open_tail S HS1.out body (by have := HBL.out; omega) ext name value HTX.out HNX.out HVX.out (by omega) (by omega) (by omega))
        have HTL : Hid ((tailF ext name value).length ≤ 161 ∧ 11 ≤ (tailF ext name value).length) := Lib.hid (by rw [tailF_len]; omega)
        have HPL2 : Hid ((preG S body.length body).length ≤ 20000) := Lib.hid (by have := (preG_len S HS1.out body.length body (Nat.le_refl _) (by have := HBL.out; omega)).2; have := HBL.out; omega)
        obtain ⟨PB, hPB⟩ : ∃ PB, preG S body.length body = PB := ⟨_, rfl⟩
        obtain ⟨TS, hTS⟩ : ∃ TS : ByteArray, ((((((⟨#[48, 48, 59]⟩ ++ ext) ++ ⟨#[13, 10]⟩) ++ name) ++ ⟨#[58, 32]⟩) ++ value) ++ ⟨#[13, 10, 13, 10]⟩ : ByteArray) = TS := ⟨_, rfl⟩
        have hTL : tailF ext name value = TS.data.toList := by rw [← hTS]; exact (tailS_list ext name value).symm
        rw [show bytesF S body = PB ++ endB by unfold bytesF; rw [bytesG_pre, hPB]] at cB
        rw [hPB, hTL] at HOP
        rw [hTL] at HTL
        rw [hPB] at HPL2
        have HTZ : Hid (TS.data.toList.length = TS.size) := Lib.hid (by simp)
        rw [HBL.out] at cB
        unfold RowPost at cB
        obtain ⟨PL, hpl⟩ : ∃ PL, PB.length = PL := ⟨_, rfl⟩
        have HPN := Lib.hid hpl
        clear hPB hTL hpl
        go_wp2_with fail
        refine cV.mono ?_
        rintro e w2 ⟨rfl, hw⟩
        subst hw
        clear cV
        go_wp2_with fail
        refine cB.mono ?_
        rintro e w2 ⟨v1, rfl, hr1, hs2⟩
        have HW2 := Lib.hid (atLeast_none hs2 HW1.out.size HW1.out)
        obtain ⟨a1, c1, hv1, hat1, _, hc1⟩ := hr1.shape
        subst hv1
        have hln : (PB ++ endB).length = PL + 5 := by rw [List.length_append, HPN.out]; rfl
        obtain ⟨y, z, hy, hcc⟩ := hat1 0 (by omega)
        subst hy
        have HAT1 : Hid (BytesAt w2 (some ⟨y, z, none⟩) PB) := Lib.hid (by
          have := bytesAt_take8 hat1 PB.length
          rwa [List.take_left] at this)
        rw [hln] at hc1 ⊢
        have e1 : ((PL + 5 : Nat) : Int) - 5 = (PL : Int) := by omega
        have e2 : ¬ (((PL + 5 : Nat) : Int) < 5) := by omega
        have p0 : (0 : Int) ≤ (PL : Int) := by omega
        have p1 : (PL : Int) ≤ (c1 : Int) := by omega
        have p2 : (PL : Int) ≤ 20000 := by have := HPL2.out; have := HPN.out; omega
        have HX1 : Hid (([] : Bs).length + PL ≤ 140737488355328) := Lib.hid (by simp; omega)
        have HX2 : Hid (([] ++ PB : Bs).length + TS.size ≤ 140737488355328) := Lib.hid (by have := HTL.out.1; have := HTZ.out; have := HPN.out; simp; omega)
        clear hr1 hs2 cB hat1 hc1 hcc hln
        go_wp2_with (first
          | ((with_reducible show wpList _ _ _ (⟨some 67, _, _, _, _, _⟩ :: _) _ _); refine wpList_row_bytes rfl _ _ rfl w2.heap.size _ [] rfl (row8_nil _ _) (some ⟨y, z, none⟩) c1 PL PB rfl HPN.out.symm HAT1.out (fun e => by cases e) HX1.out (Nat.le_refl _) ?_; intro v2 w3 hr2 hs3; have HR2 := Lib.hid hr2; have HS3 := Lib.hid hs3; clear hr2 hs3)
          | ((with_reducible show wpList _ _ _ (⟨some 78, _, _, _, _, _⟩ :: _) _ _); refine wpList_row_str rfl _ _ rfl w2.heap.size _ ([] ++ PB) rfl HR2.out TS rfl HX2.out HS3.out.size ?_; intro v3 w4 hr3 hs4; have HR3 := Lib.hid hr3; have HS4 := Lib.hid hs4; clear hr3 hs4)
          | fail)
        have hr3 : Row8 w2.heap.size w4 v3 (PB ++ TS.data.toList) := HR3.out
        have HW4 : Hid (Spares nowhere w w4) := Lib.hid (HW2.out.trans' (HS3.out.trans HS4.out) (fun _ hk => .inr (Nat.le_trans HW2.out.size hk)))
        obtain ⟨a3, c3, hv3, hat3, hnn3, hc3⟩ := hr3.shape
        subst hv3
        have hcl : 11 ≤ (PB ++ TS.data.toList).length ∧ (PB ++ TS.data.toList).length ≤ 20161 := by
          rw [List.length_append]
          have := HTL.out
          have := HPL2.out
          omega
        obtain ⟨CS, hCS⟩ : ∃ CS, PB ++ TS.data.toList = CS := ⟨_, rfl⟩
        rw [hCS] at hat3 hc3 hcl HOP ⊢
        have cO := open_any a3 c3 CS w4 hat3 hc3 (by omega)
        rw [HOP.out] at cO
        obtain ⟨CL, hCL⟩ : ∃ CL, CS.length = CL := ⟨_, rfl⟩
        have HCL := Lib.hid hCL
        rw [hCL] at hc3 hcl cO ⊢
        obtain ⟨y3, z3, he3, hcc3⟩ := hat3 0 (by omega)
        subst he3
        have HAT3 := Lib.hid hat3
        have HCC := Lib.hid hcl
        have s0 : (0 : Int) ≤ (c3 : Int) := by omega
        have s1 : (CL : Int) ≤ (c3 : Int) := by omega
        clear hr3 hat3 hnn3 hcc3 hCS hCL hcl
        go_wp2_with fail
        refine cO.mono ?_
        rintro e w5 ⟨⟨v4, rfl, hr4⟩, hs5⟩
        have hnn : ((CS.length - ([] : Bs).length : Nat) : Int) = (CL : Int) := by rw [HCL.out]; simp
        rw [hnn]
        obtain ⟨a4, c4, hv4, hat4, hnn4, hc4⟩ := hr4.shape
        subst hv4
        have HAT4 := Lib.hid hat4
        have HS5 := Lib.hid hs5
        have HW5 := Lib.hid (HW4.out.trans hs5)
        have cP := place_any pl CL w5 (by have := HCC.out; omega) (by have := HCC.out; omega) HPL.out
        clear hr4 hs5 hat4 cO hnn hnn4 hc4
        go_wp2_with fail
        refine cP.mono ?_
        rintro e w6 ⟨⟨m, hm, rfl⟩, hw⟩
        subst hw
        have m0 : (0 : Int) ≤ (m : Int) := by omega
        have m1 : (m : Int) ≤ (c3 : Int) := by omega
        have cF := open_any (some ⟨y3, z3, none⟩) c3 (CS.take m) w5 (bytesAt_take8 (HAT3.out.spares HS5.out (fun _ _ _ h => h)) m) (by rw [List.length_take]; omega) (by rw [List.length_take, HCL.out]; have := HCC.out; omega)
        rw [open_cut HOP.out m (by rw [HCL.out]; simpa using hm), List.length_take, HCL.out, Nat.min_eq_left (Nat.le_of_lt hm)] at cF
        clear cP
        go_wp2_with fail
        refine cF.mono ?_
        rintro e w6 ⟨rfl, hs6⟩
        have HW6 := Lib.hid (HW5.out.trans hs6)
        have cC := bytes_any body body a4 a c4 c w6 (HAT4.out.spares hs6 (fun _ _ _ h => h)) (HB.out.spares HW6.out (fun _ _ _ h => h))
        rw [beq_self_eq_true, HBL.out] at cC
        rw [HBL.out]
        clear hs6 cF
        go_wp2_with fail
        refine cC.mono ?_
        rintro e w7 ⟨rfl, hw⟩
        subst hw
        go_wp2
        go_ret
        exact ⟨rfl, HW6.out⟩
end Go.Proofs.YtkfnebpooohflaaDoor
