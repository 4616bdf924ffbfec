/-
  ChunkMany's walk.
-/
import Derived.Test.YtkfnebpooohflaaDoorChunkManyMath
namespace Go.Proofs.YtkfnebpooohflaaDoor
open Go.RowKit HeadMath NormMath NormS HeadS ChunkMath

theorem u8_of (z : Int) (h : 0 ≤ z ∧ z < 256) : ∃ y : UInt8, z = (y.toNat : Int) := by
  refine ⟨UInt8.ofNat z.toNat, ?_⟩
  rw [UInt8.toNat_ofNat']
  omega
set_option maxRecDepth 100000 in
set_option maxHeartbeats 8000000 in
theorem many_any (a : Option Addr) (c : Nat) (lens : Bs) (x : Int) (w : World) (hb : BytesAt w a lens) (_hc : lens.length ≤ c) (hz : lens.length ≤ 9223372036854775807) (_hx : 0 ≤ x ∧ x < 256) (hT : TabZ w) : Calls Tryd.prog 7 #[.slice a lens.length c, .int .u8 x] w (Knows w) := by
  have HK := Lib.hid (known_any w hT)
  have HT := Lib.hid hT
  have HB := Lib.hid hb
  obtain ⟨L, hL⟩ : ∃ L, lens.length = L := ⟨_, rfl⟩
  have HL := Lib.hid hL
  rw [hL] at _hc hz ⊢
  unfold Knows at HK ⊢
  clear hT hb hL
  go_enter Tryd.func7, Tryd.ntmps7
  go_wp2_with fail
  refine HK.out.mono ?_
  rintro e w1 ⟨rfl, hs1⟩
  have HW1 := Lib.hid hs1
  clear hs1 HK
  by_cases l1 : (30 : Int) < (L : Int)
  · go_wp2
    go_ret
    exact ⟨rfl, HW1.out⟩
  have L30 : L ≤ 30 := by omega
  go_wp2
  go_loopw [5, 6, 7] (fun b al i wr => ∃ (j k : Nat) (vb va : Value) (B A : Bs), j ≤ L ∧ i = .int .i64 j ∧ vb = b ∧ va = al ∧ Hid (ManyAt w1 vb va B A wr) ∧ Hid (Joined k B A) ∧ Hid (A.length ≤ 255 * j ∧ B.length ≤ 300 * j)) (fun _ _ i _ => L - (intOf i).toNat)
  case atStart => exact ⟨0, 0, _, _, [], [], by omega, rfl, rfl, rfl, Lib.hid (many_nil w1), Lib.hid joined_nil, Lib.hid ⟨by simp, by simp⟩⟩
  case round =>
    obtain ⟨j, k, vb, va, B, A, hj, rfl, rfl, rfl, HM, HJ, HLN⟩ := hrel
    by_cases hlt : j < L
    · have i1 : (j : Int) < (L : Int) := by omega
      have j30 : j ≤ 30 := by omega
      obtain ⟨y, z, rfl, _⟩ := HB.out 0 (by rw [HL.out]; omega)
      have hl2 : j < lens.length := by rw [HL.out]; exact hlt
      obtain ⟨n, hn⟩ : ∃ n : Nat, (lens[j]).toNat = n := ⟨_, rfl⟩
      have hn256 : n < 256 := by rw [← hn]; exact UInt8.toNat_lt _
      have CL : Hid (∀ W, Spares nowhere w1 W → W.cell? ⟨y, z + j, none⟩ = some (.int .u8 (n : Int))) := Lib.hid (fun W hs => by
        obtain ⟨y2, z2, e2, hcell⟩ := (HB.out.spares (HW1.out.trans hs) (fun _ _ _ h => h)) j hl2
        injection e2 with e2
        injection e2 with e3 e4
        subst e3
        subst e4
        rw [hcell, hn])
      have c0 := CL.out wr HM.out.sp
      clear hn hl2
      by_cases hn0 : n = 0
      · have z0 : (n : Int) = 0 := by omega
        go_wp2
        go_roundw
        case rel => exact ⟨j + 1, k, _, _, B, A, by omega, by go_num, rfl, rfl, HM, HJ, Lib.hid (by have := HLN.out; omega)⟩
        case measure => simp [intOf]; omega
      · have z0 : ¬ (n : Int) = 0 := by omega
        have z1 : ((n : Int) == 0) = false := by simpa using z0
        have hmk := make_bytes n (by omega) wr
        obtain ⟨q, hq⟩ : ∃ q, wr.heap.size = q := ⟨_, rfl⟩
        obtain ⟨Z, hZ⟩ : ∃ Z : Bs, List.replicate n 0 = Z := ⟨_, rfl⟩
        have HZL : Hid (Z.length = n) := Lib.hid (by rw [← hZ, List.length_replicate])
        rw [hZ, hq] at hmk
        have HAL := Lib.hid (heap_alloc_new wr (.cells (bytesV Z) 5))
        rw [hq] at HAL
        have HQ := Lib.hid hq
        clear hZ hq
        go_wp2_with fail
        obtain ⟨wo, hwo⟩ : ∃ wo, wo = wr := ⟨_, rfl⟩
        subst hwo
        go_loopw [9] (fun m wi => ∃ (p : Nat) (D : Bs), p ≤ n ∧ m = .int .i64 p ∧ Hid (D.length = n) ∧ Hid (wi.heap[q]? = some (.cells (bytesV D) 5 (0, 0))) ∧ Hid (Spares nowhere wo wi)) (fun m _ => n - (intOf m).toNat)
        case atStart => exact ⟨0, Z, by omega, rfl, HZL, HAL, Lib.hid ((Spares.refl _ _).alloc _)⟩
        clear HZL HAL
        case round =>
          obtain ⟨p, D, hp, rfl, HDL, HG, HS⟩ := hrel
          by_cases hpl : p < n
          · have p1 : (p : Int) < (n : Int) := by omega
            have c1 := (Lib.cell_of_heap HG.out p).trans (bytesV_get D p (by rw [HDL.out]; exact hpl))
            have hfz : wr.frozen? ⟨q, p, none⟩ = false := heap_frozen HG.out p
            have mb : (j : Int) * (p : Int) ≤ 7650 := by
              have : j * p ≤ 30 * 255 := Nat.mul_le_mul j30 (by omega)
              have e : ((j * p : Nat) : Int) = (j : Int) * (p : Int) := by simp
              omega
            have mb0 : 0 ≤ (j : Int) * (p : Int) := Int.mul_nonneg (by omega) (by omega)
            obtain ⟨yb, hyb⟩ := u8_of ((x + (j : Int) * (p : Int)) % 256) (by omega)
            go_wp2
            go_roundw
            case rel =>
              refine ⟨p + 1, D.set p yb, by omega, by go_num, Lib.hid (by rw [List.length_set]; exact HDL.out), Lib.hid ?_, Lib.hid (HS.out.setCell (p := ⟨q, p, none⟩) (.inr (Nat.le_of_eq HQ.out)) _)⟩
              refine (heap_set HG.out p _).trans ?_
              rw [bytesV_put]
            case measure => simp [intOf]; omega
          · obtain rfl : p = n := by omega
            have hdl := HDL.out
            subst hdl
            have HM2 := Lib.hid (HM.out.quiet HS.out)
            have HBD := Lib.hid (bytesV_at HG.out)
            have HDB : Hid (∀ g, va.ownBlock = some g → g < q) := Lib.hid (fun g hg => by have := HM.out.oa.lt g hg; have := HQ.out; omega)
            have HX1 : Hid (A.length + D.length ≤ 140737488355328) := Lib.hid (by have := HLN.out.1; omega)
            go_wp2_with (first
              | ((with_reducible show wpList _ _ _ (⟨some 53, _, _, _, _, _⟩ :: _) _ _); refine wpList_append_bytes rfl _ _ rfl _ A rfl HM2.out.oa (some ⟨q, 0, none⟩) D.length D rfl HBD.out (fun e => by cases e) HX1.out ?_; intro ao co w3 ho3 hg3 hw3; have HM3 := Lib.hid (HM2.out.all ho3 hg3 hw3); have HB3 := Lib.hid (HBD.out.spares (F := fun k => va.ownBlock = some k) ((Spares.refl _ _).grown hg3 (fun k hk => .inl hk)) (fun b off e hk => by injection e with e; injection e with e1 e2; subst e1; have := HDB.out _ hk; omega)); clear ho3 hg3 hw3)
              | fail)
            have d0 : 0 < D.length := by omega
            have cB := cbytes_any (some ⟨q, 0, none⟩) D.length D (D.length : Int) D.length w3 HB3.out (Nat.le_refl _) (by omega) (by omega) (HT.out.spares (HW1.out.trans HM3.out.sp))
            rw [bytes_one D d0] at cB
            unfold RowPost at cB
            refine cB.mono ?_
            rintro e w4 ⟨v1, rfl, hr1, hs4⟩
            have HM4 := Lib.hid (HM3.out.quiet (hs4.mono (fun _ hk => .inr hk)))
            have HJ2 := Lib.hid (HJ.out.one D d0 (by omega))
            have HOC := Lib.hid (oneC_len D (by omega))
            obtain ⟨OC, hOC⟩ : ∃ OC, oneC D = OC := ⟨_, rfl⟩
            rw [hOC] at hr1 HJ2 HOC
            obtain ⟨a1, c1, hv1, hat1, _, hc1⟩ := hr1.shape
            subst hv1
            have hln : (OC ++ endB).length = OC.length + 5 := by rw [List.length_append]; rfl
            obtain ⟨y1, z1, hy, hcc⟩ := hat1 0 (by omega)
            subst hy
            have HAT1 : Hid (BytesAt w4 (some ⟨y1, z1, none⟩) OC) := Lib.hid (by
              have := bytesAt_take8 hat1 OC.length
              rwa [List.take_left] at this)
            rw [hln] at hc1 ⊢
            have HX2 : Hid (B.length + OC.length ≤ 140737488355328) := Lib.hid (by have := HLN.out.2; have := HOC.out.1; omega)
            have e1 : ((OC.length + 5 : Nat) : Int) - 5 = (OC.length : Int) := by omega
            have e2 : ¬ (((OC.length + 5 : Nat) : Int) < 5) := by omega
            have p0 : (0 : Int) ≤ (OC.length : Int) := by omega
            have q1 : (OC.length : Int) ≤ (c1 : Int) := by omega
            have q2 : (OC.length : Int) ≤ 300 := by have := HOC.out.1; omega
            clear hr1 hs4 cB hat1 hc1 hcc hln hOC
            go_wp2_with (first
              | ((with_reducible show wpList _ _ _ (⟨some 67, _, _, _, _, _⟩ :: _) _ _); refine wpList_append_bytes rfl _ _ rfl _ B rfl HM4.out.ob (some ⟨y1, z1, none⟩) c1 OC rfl HAT1.out (fun e => by cases e) HX2.out ?_; intro ao2 co2 w5 ho5 hg5 hw5; have HM5 := Lib.hid (HM4.out.row ho5 hg5 hw5); clear ho5 hg5 hw5)
              | fail)
            go_roundw
            case rel => exact ⟨j + 1, k + 1, _, _, B ++ OC, A ++ D, by omega, by go_num, rfl, rfl, HM5, HJ2, Lib.hid (by rw [List.length_append, List.length_append]; have := HLN.out; have := HOC.out; omega)⟩
            case measure => simp [intOf]; omega
    · have i1 : ¬ (j : Int) < (L : Int) := by omega
      have HB1 : Hid (B.length + (⟨#[48, 48, 48, 13, 10, 13, 10, 114, 101, 115, 116]⟩ : ByteArray).size ≤ 140737488355328) := Lib.hid (by have := HLN.out; show _ + 11 ≤ _; omega)
      obtain ⟨aa, ca, hva, _, _⟩ := HM.out.oa.shape
      obtain ⟨ab, cb, hvb, _, _⟩ := HM.out.ob.shape
      subst hva
      subst hvb
      have HLB : Hid (A.length ≤ 7650 ∧ B.length ≤ 9000) := Lib.hid (by have := HLN.out; omega)
      obtain ⟨AL, hAL⟩ : ∃ AL, A.length = AL := ⟨_, rfl⟩
      obtain ⟨BL, hBL⟩ : ∃ BL, B.length = BL := ⟨_, rfl⟩
      have HAL := Lib.hid hAL
      have HBL := Lib.hid hBL
      rw [hAL, hBL] at HM ⊢
      have al : (AL : Int) ≤ 65536 := by have := HLB.out.1; omega
      have bl : (BL : Int) ≤ 9000 := by have := HLB.out.2; omega
      clear hAL hBL
      go_wp2_with (at_builtin; refine wpList_own_str rfl _ _ rfl _ B rfl HM.out.ob ⟨#[48, 48, 48, 13, 10, 13, 10, 114, 101, 115, 116]⟩ rfl HB1.out ?_; intro v2 w2 ho2 hg2; have HO2 := Lib.hid ho2; have HG2 := Lib.hid hg2; clear ho2 hg2)
      have ho : Row8 0 w2 v2 (B ++ threeB) := HO2.out
      have HW2 := Lib.hid (HW1.out.trans (HM.out.sp.grown HG2.out (fun k hk => .inr (HM.out.fb k hk))))
      have hoa := HM.out.oa.spares (F := fun k => (Value.slice ab BL cb).ownBlock = some k) ((Spares.refl _ _).grown HG2.out (fun k hk => .inl hk)) (fun g ha hb => HM.out.ap g hb ha)
      rw [← HAL.out] at hoa
      have HA2 := Lib.hid hoa.bytes.1
      obtain ⟨a2, c2, hv2, hat2, hnn2, hc2⟩ := ho.shape
      subst hv2
      have hl3 : (B ++ threeB).length = BL + 11 := by rw [List.length_append, HBL.out]; rfl
      have cO := open_any a2 c2 (B ++ threeB) w2 hat2 hc2 (by rw [hl3]; have := HLB.out.2; have := HBL.out; omega)
      rw [HJ.out.opens (by have := HLB.out.1; omega) fieldB] at cO
      have hnn : (((B ++ threeB).length - ([114, 101, 115, 116] : Bs).length : Nat) : Int) = (BL : Int) + 7 := by
        rw [hl3]
        show ((BL + 11 - 4 : Nat) : Int) = _
        omega
      refine cO.mono ?_
      rintro e w3 ⟨⟨v4, rfl, hr4⟩, hs3⟩
      rw [hnn]
      obtain ⟨a4, c4, hv4, hat4, hnn4, hc4⟩ := hr4.shape
      subst hv4
      have HW3 := Lib.hid (HW2.out.trans hs3)
      have cC := bytes_any A A a4 aa c4 ca w3 hat4 (HA2.out.spares hs3 (fun _ _ _ h => h))
      rw [beq_self_eq_true, HAL.out] at cC
      rw [HAL.out]
      clear ho hoa hat2 hnn2 hc2 hl3 cO hnn hs3 hr4 hat4 hnn4 hc4
      go_wp2_with fail
      refine cC.mono ?_
      rintro e w4 ⟨rfl, hw⟩
      subst hw
      go_wp2
      go_ret
      exact ⟨rfl, HW3.out⟩
end Go.Proofs.YtkfnebpooohflaaDoor
