/-
  The reference's reading of chunks.
-/
import Derived.Test.YtkfnebpooohflaaDoorChunkRefTrail
namespace Go.Proofs.YtkfnebpooohflaaDoor
open Go.RowKit HeadMath NormMath NormS HeadS ChunkMath

set_option maxRecDepth 100000 in
set_option maxHeartbeats 16000000 in
theorem refChunks_any (a : Option Addr) (c : Nat) (b : Bs) (w : World) (hb : BytesAt w a b) (hc : b.length ≤ c) (hz : b.length ≤ 1000000) (he : EndsLF b) : Calls Tryd.prog 17 #[.slice a b.length c] w (OpenPost b (openF fieldB b) w) := by
  have HB := Lib.hid hb
  have HEL := Lib.hid he
  obtain ⟨R, hR⟩ : ∃ R, openF fieldB b = R := ⟨_, rfl⟩
  rw [hR]
  have HR0 : Hid (R = chunkG fieldB (b.length + 1) [] (b.drop 0) ∧ (b.drop 0).length < b.length + 1) := Lib.hid ⟨by rw [← hR]; rfl, by simp⟩
  have CLN : Hid (∀ (j : Nat) (W : World), BytesAt W a b → j ≤ b.length → Calls Tryd.prog 28 #[.slice a b.length c, .int .i64 j] W (RefLine b (lineF (b.drop j)) W)) := Lib.hid (fun j W h1 h2 => refLine_any a c b j W h1 hc (by omega) h2 he)
  obtain ⟨bl, hbl⟩ : ∃ bl, b.length = bl := ⟨_, rfl⟩
  have HBL := Lib.hid hbl
  rw [hbl] at hc hz CLN ⊢
  clear hb he hR hbl
  go_enter Tryd.func17, Tryd.ntmps17
  go_wp2
  go_loopw [5, 6] (fun bd at_ wr => ∃ (f j : Nat) (body : Bs) (v : Value), v = bd ∧ at_ = .int .i64 j ∧ j ≤ bl ∧ Hid (R = chunkG fieldB f body (b.drop j) ∧ (b.drop j).length < f) ∧ Hid (Row8 w.heap.size wr v body) ∧ Hid (body.length ≤ 65536) ∧ Hid (Spares nowhere w wr)) (fun _ at_ _ => bl + 1 - (intOf at_).toNat)
  case atStart => exact ⟨_, 0, [], _, rfl, rfl, by omega, HR0, Lib.hid (row8_nil _ _), Lib.hid (by decide), Lib.hid (Spares.refl _ _)⟩
  case round =>
    obtain ⟨f, j, body, v, rfl, rfl, hj, HR, HROW, HLB, HS⟩ := hrel
    obtain ⟨f, rfl⟩ : ∃ g, f = g + 1 := ⟨f - 1, by have := HR.out.2; omega⟩
    have cL := CLN.out j wr (HB.out.spares HS.out (fun _ _ _ h => h)) (by have := HBL.out; omega)
    cases hl : lineF (b.drop j) with
    | error x =>
      rw [hl] at cL
      unfold RefLine at cL
      have HE : Hid (R = .error x) := Lib.hid (HR.out.1.trans (chunkG_line hl))
      have hx : ((x : Int) == 0) = false := by
        cases hd : (x : Int) == 0 with
        | false => rfl
        | true => exact absurd hl (lineF_err (by simpa using hd))
      have hx2 : ((x : Int) != 0) = true := by unfold bne; rw [hx]; rfl
      have hx3 : ¬ (x : Int) = 0 := by simpa using hx
      clear hl
      go_wp2_with fail
      refine cL.mono ?_
      rintro e w1 ⟨rfl, hw⟩
      subst hw
      go_wp2
      go_ret3
      exact openPost_error HE.out rfl HS.out
    | ok tr =>
      obtain ⟨t, r⟩ := tr
      rw [hl] at cL
      unfold RefLine at cL
      have hld := line_drop (by have := HBL.out; omega) hl
      obtain ⟨T, hT⟩ : ∃ T : ByteArray, (⟨t.toArray⟩ : ByteArray) = T := ⟨_, rfl⟩
      have hTd : T.data.toList = t := by rw [← hT]
      have hTz : T.size = t.length := by rw [← hTd]; simp
      have cN := fun W => refLength_any T W (by have := HBL.out; omega)
      rw [hTd] at cN
      rw [HBL.out] at hld
      obtain ⟨j1, hj1⟩ : ∃ j1, bl - r.length = j1 := ⟨_, rfl⟩
      simp only [hT, HBL.out, hj1] at cL
      rw [hj1] at hld
      obtain ⟨g1, g2, g3, g4⟩ := hld
      have j1b : j1 ≤ bl := by omega
      have HL := Lib.hid hl
      have HG1 := Lib.hid g1
      have HRLN : Hid (r.length = bl - j1) := Lib.hid (by omega)
      clear hl hT hTd hTz hj1 g1
      go_wp2_with fail
      refine cL.mono ?_
      rintro e w1 ⟨rfl, hw⟩
      subst hw
      clear cL
      unfold RefLen at cN
      cases hn : lengthF t with
      | none =>
        rw [hn] at cN
        unfold lenV at cN
        have HE : Hid (R = .error 94) := Lib.hid (HR.out.1.trans (chunkG_none HL.out hn))
        clear hn
        go_wp2_with fail
        refine (cN _).mono ?_
        rintro e w1 ⟨rfl, hw⟩
        subst hw
        go_wp2
        go_ret3
        exact openPost_error HE.out rfl HS.out
      | some n =>
        rw [hn] at cN
        unfold lenV at cN
        have HN := Lib.hid hn
        obtain ⟨av, cv, hv, _, _⟩ := HROW.out.shape
        subst hv
        obtain ⟨k, hk⟩ : ∃ k, body.length = k := ⟨_, rfl⟩
        have HK := Lib.hid hk
        have HLB2 := HLB.out
        rw [hk] at HLB2 HROW ⊢
        clear hn hk
        by_cases h0 : n = 0
        · subst h0
          have HT0 : Hid (R = afterT body (trailG fieldB (bl - j1 + 1) 0 (b.drop j1)) ∧ (b.drop j1).length < bl - j1 + 1) := Lib.hid ⟨by rw [HR.out.1, chunkG_zeroT HL.out HN.out, HRLN.out, ← HG1.out], by rw [List.length_drop, HBL.out]; omega⟩
          go_wp2_with fail
          refine (cN _).mono ?_
          rintro e w1 ⟨rfl, hw⟩
          subst hw
          clear cN
          obtain ⟨wo, hwo⟩ : ∃ wo, wo = wr := ⟨_, rfl⟩
          subst hwo
          go_wp2
          go_loopw [6, 13] (fun at_ ln wi => ∃ (f2 j2 q : Nat) (ls : List ByteArray) (v : Value), v = ln ∧ at_ = .int .i64 j2 ∧ j2 ≤ bl ∧ ls.length = q ∧ q ≤ 100 ∧ Hid (R = afterT body (trailG fieldB f2 q (b.drop j2)) ∧ (b.drop j2).length < f2) ∧ Hid (RowS wo.heap.size wi v ls) ∧ Hid ((parseF ls).isSome = true ∧ Small ls) ∧ Hid (Spares nowhere wo wi)) (fun at_ _ _ => bl + 1 - (intOf at_).toNat)
          case atStart => exact ⟨_, j1, 0, [], _, rfl, rfl, j1b, rfl, by omega, HT0, Lib.hid (rowS_nil _ _), Lib.hid ⟨rfl, fun j hj => absurd hj (Nat.not_lt_zero _)⟩, Lib.hid (Spares.refl _ _)⟩
          clear HT0
          case round =>
            obtain ⟨f2, j2, q, ls, v, rfl, rfl, hj2, hq, hq100, HT, HRS, HPS, HS2⟩ := hrel
            obtain ⟨f2, rfl⟩ : ∃ g, f2 = g + 1 := ⟨f2 - 1, by have := HT.out.2; omega⟩
            have cL2 := CLN.out j2 wr (HB.out.spares (HS.out.trans HS2.out) (fun _ _ _ h => h)) hj2
            have HSW := Lib.hid (HS.out.trans HS2.out)
            cases hl2 : lineF (b.drop j2) with
            | error x =>
              rw [hl2] at cL2
              unfold RefLine at cL2
              have HE : Hid (R = .error x) := Lib.hid (by rw [HT.out.1, trailG_line hl2]; rfl)
              have hx : ((x : Int) == 0) = false := by
                cases hd : (x : Int) == 0 with
                | false => rfl
                | true => exact absurd hl2 (lineF_err (by simpa using hd))
              have hx2 : ((x : Int) != 0) = true := by unfold bne; rw [hx]; rfl
              have hx3 : ¬ (x : Int) = 0 := by simpa using hx
              clear hl2
              go_wp2_with fail
              refine cL2.mono ?_
              rintro e w1 ⟨rfl, hw⟩
              subst hw
              go_wp2
              go_ret3
              exact openPost_error HE.out rfl HSW.out
            | ok tr2 =>
              obtain ⟨t2, r2⟩ := tr2
              rw [hl2] at cL2
              unfold RefLine at cL2
              have hld2 := line_drop (by rw [HBL.out]; exact hj2) hl2
              rw [HBL.out] at hld2
              have HL2 := Lib.hid hl2
              clear hl2
              cases t2 with
              | nil =>
                have HE : Hid (R = .ok (body, r2)) := Lib.hid (by rw [HT.out.1, trailG_end HL2.out]; rfl)
                obtain ⟨T2, hT2⟩ : ∃ T2 : ByteArray, (⟨([] : Bs).toArray⟩ : ByteArray) = T2 := ⟨_, rfl⟩
                have q1 : (T2.toList == []) = true := by rw [Lib.toList_data, ← hT2]; rfl
                have q2 : T2.toList.isEmpty = true := by rw [Lib.toList_data, ← hT2]; rfl
                simp only [hT2, HBL.out] at cL2
                clear hT2 hld2
                go_wp2_with fail
                refine cL2.mono ?_
                rintro e w1 ⟨rfl, hw⟩
                subst hw
                go_wp2
                go_ret3
                exact openPost_ok HE.out (by rw [HBL.out]; rfl) (HROW.out.spares HS2.out (fun _ _ h => h)) HSW.out
              | cons x t2 =>
                obtain ⟨T2, hT2⟩ : ∃ T2 : ByteArray, (⟨(x :: t2).toArray⟩ : ByteArray) = T2 := ⟨_, rfl⟩
                have q1 : (T2.toList == []) = false := by rw [Lib.toList_data, ← hT2]; rfl
                have q2 : T2.toList.isEmpty = false := by rw [Lib.toList_data, ← hT2]; rfl
                have hfb : fieldB (x :: t2) = (fieldOf T2).isSome := by unfold fieldB; rw [hT2]
                have HTZ : Hid (T2.size ≤ 140737488351232) := Lib.hid (by
                  rw [← hT2]
                  show (x :: t2).toArray.size ≤ _
                  have := hld2.2.2.2
                  simp at this ⊢
                  omega)
                obtain ⟨j3, hj3⟩ : ∃ j3, bl - r2.length = j3 := ⟨_, rfl⟩
                rw [hj3] at hld2
                simp only [hT2, HBL.out, hj3] at cL2
                obtain ⟨k1, k2, k3, _⟩ := hld2
                have k4 : j3 ≤ bl := by omega
                have HK1 := Lib.hid k1
                have HFB := Lib.hid hfb
                have HZ2 := Lib.hid HS2.out.size
                have HLS : Hid (ls.length + 1 ≤ 1000000000000) := Lib.hid (by omega)
                have HQ := Lib.hid hq
                clear hT2 hfb k1 hj3 hq
                go_wp2_with fail
                refine cL2.mono ?_
                rintro e w1 ⟨rfl, hw⟩
                subst hw
                clear cL2
                go_wp2_with (first
                  | ((with_reducible show wpList _ _ _ (⟨some 96, _, _, _, _, _⟩ :: _) _ _); refine wpList_rowS_one rfl _ _ rfl wo.heap.size _ ls rfl HRS.out T2 rfl HLS.out HZ2.out ?_; intro v9 w9 hr9 hs9; have HR9 := Lib.hid hr9; have HS9 := Lib.hid hs9; clear hr9 hs9)
                  | fail)
                obtain ⟨a9, c9, hv9, hin9⟩ := rowS_in HR9.out
                subst hv9
                have HSM : Hid (Small (ls ++ [T2])) := Lib.hid (by
                  intro i hi
                  rcases Nat.lt_or_ge i ls.length with h | h
                  · rw [List.getElem_append_left h]; exact HPS.out.2 i h
                  · have e : i = ls.length := by simp at hi; omega
                    subst e
                    simpa using HTZ.out)
                have cP := refLines_any ls T2 a9 c9 (ls ++ [T2]).length w9 hin9 rfl HSM.out (by rw [HQ.out]; exact hq100) HPS.out.1
                have HS10 : Hid (Spares nowhere wo w9) := Lib.hid (atLeast_none (w1 := wo) ((HS2.out.mono (fun _ h => by cases h)).trans HS9.out) (Nat.le_refl _) (Spares.refl _ _))
                clear hin9
                refine cP.mono ?_
                rintro e w10 ⟨⟨v10, z10, rfl, hz10⟩, hs10⟩
                have HS11 := Lib.hid (HS10.out.trans hs10)
                rw [HQ.out] at hz10
                have HR10 : Hid (RowS wo.heap.size w10 (.slice a9 (ls ++ [T2]).length c9) (ls ++ [T2])) := Lib.hid (HR9.out.spares hs10 (fun _ _ h => h))
                clear cP hs10
                rcases hz10 with ⟨hg, rfl, hp2⟩ | ⟨hbad, hz⟩
                · have HE : Hid (R = afterT body (trailG fieldB f2 (q + 1) (b.drop j3)) ∧ (b.drop j3).length < f2) := Lib.hid ⟨by rw [HT.out.1, trailG_on HL2.out (by simp) (by rw [HFB.out]; exact hg), HK1.out], by have := HT.out.2; rw [List.length_drop, HBL.out] at this ⊢; omega⟩
                  have HP2 : Hid ((parseF (ls ++ [T2])).isSome = true ∧ Small (ls ++ [T2])) := Lib.hid ⟨hp2, HSM.out⟩
                  have hq1 : q + 1 ≤ 100 := by
                    have : ¬ q = 100 := fun h => hg (.inr h)
                    omega
                  clear hp2 hg
                  go_wp2
                  go_roundw
                  case rel => exact ⟨f2, j3, q + 1, ls ++ [T2], _, rfl, rfl, k4, by rw [List.length_append, HQ.out]; rfl, hq1, HE, Lib.hid (by have := HR10.out; rwa [List.length_append, List.length_singleton] at this), HP2, HS11⟩
                  case measure => simp [intOf]; omega
                · have HE : Hid (R = .error 94) := Lib.hid (by rw [HT.out.1, trailG_bad HL2.out (by simp) (by rw [HFB.out]; exact hbad)]; rfl)
                  clear hbad
                  rcases hz with rfl | rfl
                  · go_wp2
                    go_ret3
                    exact openPost_error HE.out rfl (HS.out.trans HS11.out)
                  · go_wp2
                    go_ret3
                    exact openPost_error HE.out rfl (HS.out.trans HS11.out)
        · have n0 : ((n : Int) == 0) = false := by simpa using h0
          have n1 : ¬ (n : Int) = 0 := by omega
          by_cases hbig : 65536 < k + n
          · have HE : Hid (R = .error 93) := Lib.hid (HR.out.1.trans (chunkG_long HL.out HN.out h0 (by rw [HK.out]; exact hbig)))
            have l1 : (65536 : Int) - (k : Int) < (n : Int) := by omega
            clear h0
            go_wp2_with fail
            refine (cN _).mono ?_
            rintro e w1 ⟨rfl, hw⟩
            subst hw
            go_wp2
            go_ret3
            exact openPost_error HE.out rfl HS.out
          · have l1 : ¬ ((65536 : Int) - (k : Int) < (n : Int)) := by omega
            have nb : (n : Int) ≤ 65536 := by omega
            by_cases hsh : bl - j1 < n
            · have HE : Hid (R = .error 92) := Lib.hid (HR.out.1.trans (chunkG_short HL.out HN.out h0 (by rw [HK.out]; exact hbig) (by rw [HRLN.out]; exact hsh)))
              have l2 : (bl : Int) - (j1 : Int) < (n : Int) := by omega
              clear h0
              go_wp2_with fail
              refine (cN _).mono ?_
              rintro e w1 ⟨rfl, hw⟩
              subst hw
              go_wp2
              go_ret3
              exact openPost_error HE.out rfl HS.out
            · have l2 : ¬ ((bl : Int) - (j1 : Int) < (n : Int)) := by omega
              have HMR : Hid (R = restH fieldB f (body ++ r.take n) 0 (b.drop (j1 + n))) := Lib.hid (by rw [HR.out.1, chunkG_more HL.out HN.out h0 (by rw [HK.out]; exact hbig) (by rw [HRLN.out]; exact hsh), HG1.out, List.drop_drop]; rfl)
              obtain ⟨y, z, rfl, _⟩ := HB.out 0 (by have := HBL.out; omega)
              obtain ⟨M, hM⟩ : ∃ M, r.take n = M := ⟨_, rfl⟩
              have HML : Hid (n = M.length) := Lib.hid (by rw [← hM, List.length_take, HRLN.out]; omega)
              have HMA : Hid (BytesAt wr (some ⟨y, z + j1, none⟩) M) := Lib.hid (by
                rw [← hM, HG1.out]
                exact bytesAt_take8 (bytesAt_drop8 (HB.out.spares HS.out (fun _ _ _ h => h)) j1) n)
              rw [hM] at HMR
              have HML2 : Hid (j1 + n - j1 = M.length) := Lib.hid (by rw [Nat.add_sub_cancel_left]; exact HML.out)
              have HX1 : Hid (body.length + (j1 + n - j1) ≤ 140737488355328) := Lib.hid (by rw [HK.out]; omega)
              have HZ1 := Lib.hid HS.out.size
              have s1 : (j1 : Int) + (n : Int) ≤ (c : Int) := by omega
              have s2 : (j1 : Int) < (c : Int) := by omega
              have s3 : j1 < c := by omega
              clear h0 hM
              go_wp2_with fail
              refine (cN _).mono ?_
              rintro e w1 ⟨rfl, hw⟩
              subst hw
              clear cN
              go_wp2_with (first
                | ((with_reducible show wpList _ _ _ (⟨some 57, _, _, _, _, _⟩ :: _) _ _); refine wpList_row_bytes rfl _ _ rfl w.heap.size _ body rfl HROW.out (some ⟨y, z + j1, none⟩) (c - j1) (j1 + n - j1) M rfl HML2.out HMA.out (fun e => by cases e) HX1.out HZ1.out ?_; intro v2 w2 hr2 hs2; have HR2 := Lib.hid hr2; have HS2 : Hid (Spares nowhere w w2) := Lib.hid (HS.out.trans' hs2 (fun k hk => .inr hk)); clear hr2 hs2)
                | fail)
              go_loopw [6, 12] (fun at_ i wi => ∃ m J : Nat, m ≤ 2 ∧ i = .int .i64 m ∧ at_ = .int .i64 J ∧ J = j1 + n + m ∧ J ≤ bl ∧ Hid (R = restH fieldB f (body ++ M) m (b.drop J)) ∧ Hid (Spares nowhere w2 wi)) (fun _ i _ => 3 - (intOf i).toNat)
              case atStart => exact ⟨0, j1 + n, by omega, rfl, by go_num, rfl, by omega, HMR, Lib.hid (Spares.refl _ _)⟩
              clear HMR
              case round =>
                obtain ⟨m, J, hm, rfl, rfl, hJ, hJb, HRR, HSI⟩ := hrel
                have HSW := Lib.hid (HS2.out.trans HSI.out)
                have HJE := Lib.hid hJ
                clear hJ
                by_cases hm2 : m = 2
                · subst hm2
                  have HE : Hid (R = chunkG fieldB f (body ++ M) (b.drop J) ∧ (b.drop J).length < f) := Lib.hid ⟨HRR.out, by have := HR.out.2; have hJ := HJE.out; rw [List.length_drop, HBL.out] at this ⊢; omega⟩
                  have HR3 := Lib.hid (HR2.out.spares HSI.out (fun _ _ h => h))
                  have HB3 : Hid ((body ++ M).length ≤ 65536) := Lib.hid (by rw [List.length_append, HK.out, ← HML.out]; omega)
                  go_wp2
                  go_roundw
                  case rel => exact ⟨f, J, body ++ M, _, rfl, rfl, hJb, HE, HR3, HB3, HSW⟩
                  case measure => have hJ := HJE.out; simp [intOf]; omega
                · cases hd : b.drop J with
                  | nil =>
                    have HE : Hid (R = .error 92) := Lib.hid (by rw [HRR.out, hd, restH_nil (by omega)])
                    have i1 : (bl : Int) ≤ (J : Int) := by have := drop_end hd; have := HBL.out; omega
                    have i2 : (m : Int) < 2 := by omega
                    clear hd
                    go_wp2
                    go_ret3
                    exact openPost_error HE.out rfl HSW.out
                  | cons x r' =>
                    obtain ⟨g1, g2, g3⟩ := drop_get hd
                    have i1 : ¬ (bl : Int) ≤ (J : Int) := by have := HBL.out; omega
                    obtain ⟨y2, z2, e2, c1⟩ := HB.out J g2
                    injection e2 with e2
                    injection e2 with e3 e4
                    subst e3
                    subst e4
                    have hx1 : b[J] = x := by have := List.getElem?_eq_getElem g2; rw [g1] at this; exact (Option.some.inj this).symm
                    rw [hx1] at c1
                    have HD := Lib.hid hd
                    have HG3 := Lib.hid g3
                    have jb : J + 1 ≤ bl := by have := HBL.out; omega
                    have cw := (HSW.out.trans (Spares.refl nowhere wr)).size
                    have c2 : wr.cell? ⟨y, z + J, none⟩ = some (.int .u8 x.toNat) := by
                      obtain ⟨y5, z5, e5, h5⟩ := (HB.out.spares HSW.out (fun _ _ _ h => h)) J g2
                      injection e5 with e5
                      injection e5 with e6 e7
                      subst e6
                      subst e7
                      rw [h5, hx1]
                    clear hd g1 g3 hx1 c1 cw
                    rcases (show m = 0 ∨ m = 1 by omega) with rfl | rfl
                    · by_cases hx : x = 13
                      · subst hx
                        have HE : Hid (R = restH fieldB f (body ++ M) 1 (b.drop (J + 1))) := Lib.hid (by rw [HRR.out, HD.out, HG3.out]; rfl)
                        go_wp2
                        go_region
                        go_wp2
                        go_roundw
                        case rel => exact ⟨1, J + 1, by omega, by go_num, by go_num, by have hJ := HJE.out; omega, jb, HE, Lib.hid (HSI.out.drew)⟩
                        case measure => simp [intOf]
                      · have q : ((x.toNat : Int) == 13) = false := by
                          rw [beq_eq_false_iff_ne]
                          intro e
                          exact hx (UInt8.toNat_inj.1 (by show x.toNat = 13; omega))
                        have q2 : ((x.toNat : Int) != 13) = true := by unfold bne; rw [q]; rfl
                        have q3 : ((x.toNat : Int) != ((((⟨#[13, 10]⟩ : ByteArray)[0]'(by decide)).toNat : Nat) : Int)) = true := q2
                        have HE : Hid (R = .error 94) := Lib.hid (by rw [HRR.out, HD.out, restH_bad0 hx])
                        clear hx
                        go_wp2
                        go_region
                        go_wp2
                        go_ret3
                        exact openPost_error HE.out rfl (HSW.out.drew)
                    · by_cases hx : x = 10
                      · subst hx
                        have HE : Hid (R = restH fieldB f (body ++ M) 2 (b.drop (J + 1))) := Lib.hid (by rw [HRR.out, HD.out, HG3.out]; rfl)
                        go_wp2
                        go_region
                        go_wp2
                        go_roundw
                        case rel => exact ⟨2, J + 1, by omega, by go_num, by go_num, by have hJ := HJE.out; omega, jb, HE, Lib.hid (HSI.out.drew)⟩
                        case measure => simp [intOf]
                      · have q : ((x.toNat : Int) == 10) = false := by
                          rw [beq_eq_false_iff_ne]
                          intro e
                          exact hx (UInt8.toNat_inj.1 (by show x.toNat = 10; omega))
                        have q2 : ((x.toNat : Int) != 10) = true := by unfold bne; rw [q]; rfl
                        have q3 : ((x.toNat : Int) != ((((⟨#[13, 10]⟩ : ByteArray)[1]'(by decide)).toNat : Nat) : Int)) = true := q2
                        have HE : Hid (R = .error 94) := Lib.hid (by rw [HRR.out, HD.out, restH_bad1 hx])
                        clear hx
                        go_wp2
                        go_region
                        go_wp2
                        go_ret3
                        exact openPost_error HE.out rfl (HSW.out.drew)
end Go.Proofs.YtkfnebpooohflaaDoor
