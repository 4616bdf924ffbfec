/-
  The reference's LineOf, where the date is right.
-/
import Derived.Test.YtkbcklaloblmeaaGreatDoorMg35
import Derived.Test.YtkbcklaloblmeaaGreatDoorMg37
import Derived.Test.YtkbcklaloblmeaaGreatDoorMg45
namespace Go.Proofs.YtkbcklaloblmeaaGreatDoor
open Go.RowKit LineMath ChunkS NormS DateMath

theorem list_at (s : ByteArray) (a q : Nat) (ha : a ≤ q) (h : q < s.size) (hl : q - a < (s.data.toList.drop a).length) : (s.data.toList.drop a)[q - a] = s[q] := by
  rw [List.getElem_drop]
  have e : a + (q - a) = q := by omega
  simp only [e]
  rfl
theorem extract_word (s : ByteArray) (a q : Nat) (ha : a ≤ q) (hq : q = a + (wordOf (s.data.toList.drop a)).length) : s.extract a q = arrS (wordOf (s.data.toList.drop a)) := by
  apply ByteArray.ext
  apply Array.ext'
  show (s.extract a q).data.toList = (arrS _).data.toList
  rw [arrS_list, Lib.extract_data]
  rw [show q - a = (wordOf (s.data.toList.drop a)).length by omega, word_take]
set_option maxRecDepth 100000 in
set_option maxHeartbeats 16000000 in
theorem lof_good (s : ByteArray) (w : World) (t : Int) (hs : 30 ≤ s.size) (h29 : s.data.toList.getD 29 0 = 32) (hr : readF (s.data.toList.take 29) = (t, 0)) (hsz : s.size ≤ 100000000) : Calls Tryz.prog 12 #[.string s] w (ParseLPost s.data.toList w) := by
  have he : (s.extract 0 29).data.toList = s.data.toList.take 29 := by rw [Lib.extract_data]; simp
  obtain ⟨wd, hwd⟩ : ∃ wd, wordOf (s.data.toList.drop 30) = wd := ⟨_, rfl⟩
  have hwl : wd.length + 30 ≤ s.size := by have := word_le (s.data.toList.drop 30); rw [hwd, List.length_drop, size_list] at this; omega
  have HWL := Lib.hid hwl
  have HV : Hid (lineF s.data.toList = match textsF (s.data.toList.drop (30 + wd.length)) with
    | none => none
    | some (m, h, g, r3) =>
      if howF wd < 0 then none else
      match numsF r3 with
      | none => none
      | some (a, b) => some ⟨t, howF wd, m, h, g, a, b⟩) := Lib.hid (by
    rw [← ref_line, refF_go (by rw [size_list]; omega) h29 hr, hwd, List.drop_drop]; rfl)
  have cP := refParse_anyD (s.extract 0 29) (w.alloc (.cells (cellsV zeroL).toArray 23)) (by rw [ByteArray.size_extract]; omega)
  unfold PairPost at cP
  rw [he, hr] at cP
  have l1 : ¬ (s.size : Int) < 30 := by omega
  have l2 : (s[29].toNat : Int) = 32 := (byte_nat _).1 (by rw [← getD_at s 29 (by omega)]; exact h29)
  have HWD := Lib.hid hwd
  have HI : Hid ((Tryz.prog.info? 23).map (·.size) = some 7) := Lib.hid (by kernel_rfl)
  clear he h29 hr hwd hwl
  unfold ParseLPost
  go_enter Tryz.func12, Tryz.ntmps12
  go_wp2_with fail
  refine cP.mono ?_
  rintro e w2 ⟨rfl, hb⟩
  obtain ⟨v1, hv1⟩ : ∃ v1, w2.alloc (.cells (lineV t (-1) ⟨#[]⟩ ⟨#[]⟩ ⟨#[]⟩ 0 0) 23) = v1 := ⟨_, rfl⟩
  obtain ⟨L, hL⟩ : ∃ L, w2.heap.size = L := ⟨_, rfl⟩
  have hLz : w.heap.size < L := by have := hb.size; simp at this; omega
  have hr1 : LAt v1 w.heap.size (cellsV zeroL).toArray := by
    rw [← hv1]
    exact LAt.move (F := nowhere) ((hb.block w.heap.size (by simp)).trans (heap_alloc_new w _)) ((Spares.refl _ _).alloc _) (fun h => h)
  have hl1 : LAt v1 L (lineV t (-1) ⟨#[]⟩ ⟨#[]⟩ ⟨#[]⟩ 0 0) := by rw [← hv1, ← hL]; exact heap_alloc_new w2 _
  have hs1 : Spares nowhere w v1 := by
    rw [← hv1]
    exact (Below.spares (F := nowhere) (((Below.refl _ _).alloc (Nat.le_refl _) _).trans (hb.mono (by simp)) : Below w.heap.size w w2) (fun _ hk => .inr hk)).alloc _
  have HV1 := Lib.hid hv1
  have HLZ := Lib.hid hLz
  have HR1 := Lib.hid hr1
  have HL1 := Lib.hid hl1
  have HS1 := Lib.hid hs1
  clear hv1 hb hLz hr1 hl1 hs1 cP
  go_upto_region 7 with (fail)
  change Code.wp _ _ _ _ (w2.alloc (.cells (lineV t (-1) ⟨#[]⟩ ⟨#[]⟩ ⟨#[]⟩ 0 0) 23))
  rw [HV1.out]
  clear hL
  iterate 8 (first | go_skip | go_step | go_upon | go_back | go_simp)
  go_cut [7] from 19 (fun s7 wx => s7 = .int .i64 ((30 + wd.length : Nat) : Int) ∧ wx = v1)
  case first =>
    go_wp2
    go_loop [7] (fun i => ∃ q : Nat, 30 ≤ q ∧ q ≤ 30 + wd.length ∧ i = .int .i64 q) (fun i => s.size - (intOf i).toNat)
    case atStart => exact ⟨30, by omega, by omega, rfl⟩
    case round =>
      obtain ⟨q, hq1, hq2, rfl⟩ := hrel
      by_cases hlt : q < s.size
      · have hl2 : q - 30 < (s.data.toList.drop 30).length := by rw [List.length_drop, size_list]; omega
        have hg := list_at s 30 q hq1 hlt hl2
        have hw := word_at (s.data.toList.drop 30) (q - 30) (by rw [HWD.out]; omega) hl2
        rw [HWD.out, hg] at hw
        by_cases hc : s[q] = 32
        · have hc' : (s[q].toNat : Int) = 32 := (byte_nat _).1 hc
          have HQ : Hid (q = 30 + wd.length) := Lib.hid (by have := hw.2 hc; omega)
          clear hw hg hl2 hc
          go_wp2
          go_meet
          exact ⟨by rw [HQ.out], rfl⟩
        · have hc' : ¬ (s[q].toNat : Int) = 32 := fun h => hc ((byte_nat _).2 h)
          have hq3 : q + 1 ≤ 30 + wd.length := by have := hw.1 hc; omega
          clear hw hg hl2 hc
          go_wp2
          go_round
          case rel => exact ⟨q + 1, by omega, hq3, by go_num⟩
          case measure => simp [intOf]; omega
      · have HQ : Hid (q = 30 + wd.length) := Lib.hid (by have := HWL.out; omega)
        go_wp2
        go_meet
        exact ⟨by rw [HQ.out], rfl⟩
  case rest =>
    obtain ⟨rfl, rfl⟩ := hcut
    obtain ⟨A, hA⟩ : ∃ A, 30 + wd.length = A := ⟨_, rfl⟩
    rw [hA] at HV ⊢
    have HA := Lib.hid hA
    have hA1 : 30 ≤ A := by omega
    have hA2 : A ≤ s.size := by have := HWL.out; omega
    have HX : Hid (s.extract 30 A = arrS wd) := Lib.hid (by rw [← HWD.out]; exact extract_word s 30 A hA1 (by rw [HWD.out, hA]))
    clear hA
    obtain ⟨W, hW⟩ : ∃ W, arrS wd = W := ⟨_, rfl⟩
    rw [hW] at HX
    have HWW := Lib.hid hW
    clear hW
    have H0 : Hid (LAt wc L (lineV t (hcur wd 0) ⟨#[]⟩ ⟨#[]⟩ ⟨#[]⟩ 0 0)) := Lib.hid (by
      have : hcur wd 0 = -1 := by unfold hcur; rw [if_neg (by omega)]
      rw [this]; exact HL1.out)
    clear HL1
    iterate 2 (first | go_skip | go_step | go_upon | go_back | go_simp)
    go_cut [8] from 19 (fun _ wx => Hid (LAt wx L (lineV t (howF wd) ⟨#[]⟩ ⟨#[]⟩ ⟨#[]⟩ 0 0)) ∧ Hid (LAt wx w.heap.size (cellsV zeroL).toArray) ∧ Hid (Spares nowhere w wx))
    case first =>
      go_wp2
      go_loopw [8] (fun i wr => ∃ k : Nat, k ≤ 6 ∧ i = .int .i64 k ∧ Hid (LAt wr L (lineV t (hcur wd k) ⟨#[]⟩ ⟨#[]⟩ ⟨#[]⟩ 0 0)) ∧ Hid (LAt wr w.heap.size (cellsV zeroL).toArray) ∧ Hid (Spares nowhere w wr)) (fun i _ => 6 - (intOf i).toNat)
      case atStart => exact ⟨0, by omega, rfl, H0, HR1, HS1⟩
      case round =>
        obtain ⟨k, hk, rfl, HL, HZ, HS⟩ := hrel
        have hwL := HLZ.out
        by_cases hlt : k < 6
        · have hLs : L < wr.heap.size := by
            have h := HL.out
            unfold LAt at h
            rcases Nat.lt_or_ge L wr.heap.size with h' | h'
            · exact h'
            · simp [Array.getElem?_eq_none h'] at h
          obtain ⟨H, hH⟩ : ∃ H, arrS (howB k) = H := ⟨_, rfl⟩
          have HX' := HX.out
          have z3d : (wr.drew.alloc (.cells howsA 9)).cell? ⟨wr.heap.size, k, none⟩ = some (.string H) := by
            have hA : (wr.drew.alloc (.cells howsA 9)).heap[wr.heap.size]? = _ := heap_alloc_new wr.drew _
            exact (Lib.cell_of_heap hA k).trans (by rw [howsA_get k hlt, hH])
          have z3e : (wr.alloc (.cells howsA 9)).drew.cell? ⟨wr.heap.size, k, none⟩ = some (.string H) := z3d
          have z3f : (wr.alloc (.cells howsA 9)).cell? ⟨wr.heap.size, k, none⟩ = some (.string H) := z3d
          have hvA : Spares nowhere wr (wr.alloc (.cells howsA 9)).drew := ((Spares.refl _ _).alloc _).drew
          have hvB : Spares nowhere wr (wr.drew.alloc (.cells howsA 9)) := (Spares.refl _ _).drew.alloc _
          have HVA := Lib.hid hvA
          have HVB := Lib.hid hvB
          clear hvA hvB
          by_cases hwd : wd = howB k
          · have q1 : (W.toList == H.toList) = true := by rw [← HWW.out, ← hH, hwd]; simp
            have hc := hcur_yes k hlt
            rw [← hwd] at hc
            have HC := Lib.hid hc
            clear hH hc hwd
            go_upto_region 13 with (fail)
            go_region_with (first | (go_at_call 26; refine (hows_any _).mono ?_; rintro e w9 ⟨rfl, rfl⟩) | fail)
            all_goals
              have hl3 := HL.out.move HVA.out (fun h => h)
              have hz3 := HZ.out.move HVA.out (fun h => h)
              have hs3 := HS.out.trans HVA.out
              obtain ⟨v3, hv3⟩ : ∃ v3, (wr.alloc (.cells howsA 9)).drew = v3 := ⟨_, rfl⟩
              rw [hv3] at hl3 hz3 hs3
              rw [hv3]
              clear hv3 z3d z3e z3f HVA HVB
              have c1 : v3.cell? ⟨L, 1, none⟩ = some (.int .i64 (hcur wd k)) := by rw [Lib.cell_of_heap hl3]; rfl
              have f1 : v3.frozen? ⟨L, 1, none⟩ = false := heap_frozen hl3 1
              have HL3 := Lib.hid hl3
              have HZ3 := Lib.hid hz3
              have HS3 := Lib.hid hs3
              clear hl3 hz3 hs3
              simp only [List.getElem_toArray, List.getElem_cons_succ, List.getElem_cons_zero, Act.put, List.setIfInBounds_toArray, List.set_cons_succ, List.set_cons_zero]
              go_wp2
              go_roundw
              case rel =>
                have hst : Spares (only L) v3 (v3.setCell ⟨L, 1, none⟩ (.int .i64 (k : Int))) := spares_set (Spares.refl _ _) 1 _
                refine ⟨k + 1, by omega, by go_num, Lib.hid ?_, Lib.hid (HZ3.out.move hst (by unfold only; omega)), Lib.hid (HS3.out.trans' hst (fun b hb => .inr (by unfold only at hb; omega)))⟩
                rw [HC.out]
                exact heap_set HL3.out 1 _
              case measure => simp [intOf]; omega
          · have q1 : (W.toList == H.toList) = false := by
              rw [← HWW.out, ← hH, Lib.toList_data, Lib.toList_data, arrS_list, arrS_list]; simpa using hwd
            have HC := Lib.hid (hcur_no wd k hlt hwd)
            clear hH hwd
            go_upto_region 13 with (fail)
            go_region_with (first | (go_at_call 26; refine (hows_any _).mono ?_; rintro e w9 ⟨rfl, rfl⟩) | fail)
            all_goals
              have hl3 := HL.out.move HVA.out (fun h => h)
              have hz3 := HZ.out.move HVA.out (fun h => h)
              have hs3 := HS.out.trans HVA.out
              obtain ⟨v3, hv3⟩ : ∃ v3, (wr.alloc (.cells howsA 9)).drew = v3 := ⟨_, rfl⟩
              rw [hv3] at hl3 hz3 hs3
              rw [hv3]
              clear hv3 z3d z3e z3f HVA HVB
              simp only [List.getElem_toArray, List.getElem_cons_succ, List.getElem_cons_zero, Act.put, List.setIfInBounds_toArray, List.set_cons_succ, List.set_cons_zero]
              go_wp2
              go_roundw
              case rel => exact ⟨k + 1, by omega, by go_num, Lib.hid (by rw [HC.out]; exact hl3), Lib.hid hz3, Lib.hid hs3⟩
              case measure => simp [intOf]; omega
        · obtain rfl : k = 6 := by omega
          have hl0 : LAt wr L (lineV t (howF wd) ⟨#[]⟩ ⟨#[]⟩ ⟨#[]⟩ 0 0) := by rw [← hcur_end]; exact HL.out
          clear HL
          go_wp2
          go_meet
          exact ⟨Lib.hid hl0, HZ, HS⟩
    case rest =>
      obtain ⟨HL0, HZ0, HS0⟩ := hcut
      clear HR1 HS1
      obtain ⟨x1, hx1⟩ : ∃ x1, wc.alloc (.cells #[.string ⟨#[]⟩, .string ⟨#[]⟩, .string ⟨#[]⟩] 58) = x1 := ⟨_, rfl⟩
      have hLs : L < wc.heap.size := by
        have h := HL0.out
        unfold LAt at h
        rcases Nat.lt_or_ge L wc.heap.size with h' | h'
        · exact h'
        · simp [Array.getElem?_eq_none h'] at h
      have hvA : Spares nowhere wc x1 := by rw [← hx1]; exact (Spares.refl _ _).alloc _
      have HL1 := Lib.hid (HL0.out.move hvA (fun h => h))
      have HZ1 := Lib.hid (HZ0.out.move hvA (fun h => h))
      have HS1 := Lib.hid (HS0.out.trans hvA)
      have HT1 : Hid (x1.heap[wc.heap.size]? = some (.cells (textC []).toArray 58 (0, 0))) := Lib.hid (by rw [← hx1]; exact heap_alloc_new wc _)
      obtain ⟨b, hb⟩ : ∃ b, wc.heap.size = b := ⟨_, rfl⟩
      have HX1 := Lib.hid hx1
      rw [hb] at HT1 hLs
      have HLb := Lib.hid hLs
      clear hx1 hvA HL0 HZ0 HS0
      go_upto_region 16 with (fail)
      change Code.wp _ _ _ _ (wc.alloc (.cells #[.string ⟨#[]⟩, .string ⟨#[]⟩, .string ⟨#[]⟩] 58))
      rw [HX1.out]
      try rw [hb]
      clear hb
      obtain ⟨l, hl⟩ : ∃ l, s.data.toList = l := ⟨_, rfl⟩
      have hlen : l.length = s.size := by rw [← hl, size_list]
      have HLL := Lib.hid hl
      iterate 7 (first | go_skip | go_step | go_upon | go_back | go_simp)
      go_cut [7, 10] from 19 (fun s7 _ wx => ∃ (xs : List (List UInt8)) (j : Nat), s7 = .int .i64 j ∧ j ≤ s.size ∧ Hid (stepsF 3 (l.drop A) = some (xs, l.drop j)) ∧ Hid (wx.heap[b]? = some (.cells (textC xs).toArray 58 (0, 0))) ∧ Hid (LAt wx L (lineV t (howF wd) ⟨#[]⟩ ⟨#[]⟩ ⟨#[]⟩ 0 0)) ∧ Hid (LAt wx w.heap.size (cellsV zeroL).toArray) ∧ Hid (Spares nowhere w wx))
      case first =>
        go_wp2
        go_loopw [7, 10] (fun a i wx => ∃ (k : Nat) (xs : List (List UInt8)) (j : Nat), k ≤ 3 ∧ i = .int .i64 k ∧ a = .int .i64 j ∧ j ≤ s.size ∧ Hid (stepsF k (l.drop A) = some (xs, l.drop j)) ∧ Hid (wx.heap[b]? = some (.cells (textC xs).toArray 58 (0, 0))) ∧ Hid (LAt wx L (lineV t (howF wd) ⟨#[]⟩ ⟨#[]⟩ ⟨#[]⟩ 0 0)) ∧ Hid (LAt wx w.heap.size (cellsV zeroL).toArray) ∧ Hid (Spares nowhere w wx)) (fun _ i _ => 3 - (intOf i).toNat)
        case atStart => exact ⟨0, [], A, by omega, rfl, rfl, hA2, Lib.hid rfl, HT1, HL1, HZ1, HS1⟩
        case round =>
          obtain ⟨k, xs, j, hk, rfl, rfl, hj, HP, HB, HL, HZ, HS⟩ := hrel
          by_cases hk3 : k < 3
          · by_cases hjs : j < s.size
            · have hd : l.drop j = s[j] :: l.drop (j + 1) := by rw [← hl]; exact drop_cons s j hjs
              by_cases hc : s[j] = 32
              · have hc' : (s[j].toNat : Int) = 32 := (byte_nat _).1 hc
                have cQ := refQuoted_any s (j + 1) wr (by omega) (by omega)
                unfold RefQPost at cQ
                rw [hl] at cQ
                have hq0 : qS (l.drop j) = quotedF (l.drop (j + 1)) := by rw [hd, hc]; exact qS_yes _
                cases hq : quotedF (l.drop (j + 1)) with
                | none =>
                  rw [refQV_none hq] at cQ
                  have HN : Hid (lineF s.data.toList = none) := Lib.hid (by rw [HV.out, hl, steps_bad hk3 HP.out (by rw [hq0, hq])])
                  clear hq hq0 hd hc hl
                  go_wp2_with fail
                  refine cQ.mono ?_
                  rintro e w4 ⟨rfl, hb4⟩
                  have hsp : Spares nowhere wr w4 := Below.spares hb4 (fun _ hk => .inr hk)
                  have HZ4 := Lib.hid (HZ.out.move hsp (fun h => h))
                  have HS4 := Lib.hid (HS.out.trans hsp)
                  clear hb4 hsp cQ
                  have HT : Hid (w4.there w.heap.size 0 7) := Lib.hid (there_of HZ4.out _ _ (by decide))
                  go_wp2_with ((with_reducible show wpList _ _ _ (⟨none, .store 23 _ _, _, _, _, _⟩ :: _) _ _); refine wpList_store_mid rfl 23 (.tmp 2) (.tmp 89) rfl w.heap.size 0 (cellsV zeroL).toArray rfl rfl HT.out HI.out (all_oneCell_toArray (cellsV_one _)) ?_)
                  exact bodyPost_ret (v := lineR none) (results_cell_two rfl _ _ w.heap.size 23 (cellsV zeroL).toArray (0, 0) _ (.int .i64 123) rfl rfl (heap_setCells (cellsV zeroL) [] (cellsV zeroL) [] w4 HZ4.out rfl) Tryz.underlying23 (by rfl) HI.out) rfl ⟨by rw [HN.out], (HS4.out.trans' (F' := fun b => b = w.heap.size) (spares_setCells _ _ _ (Spares.refl _ _)) (fun b hb => .inr (by omega))).below0⟩
                | some p =>
                  obtain ⟨v, u⟩ := p
                  obtain ⟨j2, hj2, hu, hV⟩ := refQV_step hq
                  rw [hV] at cQ
                  have HP2 : Hid (stepsF (k + 1) (l.drop A) = some (xs ++ [v], l.drop j2)) := Lib.hid (steps_more HP.out (by rw [hq0, hq, hu]))
                  have hxl := steps_len k HP.out
                  obtain ⟨V, hVV⟩ : ∃ V, arrS v = V := ⟨_, rfl⟩
                  rw [hVV] at cQ
                  have HVV := Lib.hid hVV
                  have HJ2 : Hid (j2 ≤ s.size) := Lib.hid (by omega)
                  clear hq hq0 hd hc hl hu hV hj2 hVV
                  go_wp2_with fail
                  refine cQ.mono ?_
                  rintro e w4 ⟨rfl, hb4⟩
                  have hsp : Spares nowhere wr w4 := Below.spares hb4 (fun _ hk => .inr hk)
                  have HZ4 := Lib.hid (HZ.out.move hsp (fun h => h))
                  have HL4 := Lib.hid (HL.out.move hsp (fun h => h))
                  have HS4 := Lib.hid (HS.out.trans hsp)
                  have HB4 := Lib.hid (hsp.heap HB.out (fun h => h))
                  have HXL := Lib.hid hxl
                  have g1 : ∃ y, w4.cell? ⟨b, k, none⟩ = some y := by
                    rw [Lib.cell_of_heap HB4.out]
                    have : k < (textC xs).toArray.size := by rw [List.size_toArray, textC_len xs (by omega)]; exact hk3
                    exact ⟨_, Array.getElem?_eq_getElem this⟩
                  obtain ⟨y, g1⟩ := g1
                  have g2 : w4.frozen? ⟨b, k, none⟩ = false := heap_frozen HB4.out k
                  clear hb4 hsp cQ hxl
                  go_wp2
                  go_roundw
                  case rel =>
                    have hst : Spares (only b) w4 (w4.setCell ⟨b, k, none⟩ (.string V)) := spares_set (Spares.refl _ _) k _
                    refine ⟨k + 1, xs ++ [v], j2, by omega, by go_num, rfl, HJ2.out, HP2, Lib.hid ?_, Lib.hid (HL4.out.move hst (by unfold only; have := HLb.out; omega)), Lib.hid (HZ4.out.move hst (by unfold only; have := HLb.out; have := HLZ.out; omega)), Lib.hid (HS4.out.trans' hst (fun b hb => .inr (by unfold only at hb; have := HLb.out; have := HLZ.out; omega)))⟩
                    have h := heap_set HB4.out k (.string V)
                    rw [List.setIfInBounds_toArray, ← HVV.out, ← HXL.out, textC_set xs v (by have := HXL.out; omega)] at h
                    rw [← HVV.out, ← HXL.out]
                    exact h
                  case measure => simp [intOf]; omega
              · have hc' : ¬ (s[j].toNat : Int) = 32 := fun h => hc ((byte_nat _).2 h)
                have hcq : ((s[j].toNat : Int) != 32) = true := by simpa using hc'
                have HN : Hid (lineF s.data.toList = none) := Lib.hid (by rw [HV.out, hl, steps_bad hk3 HP.out (by rw [hd]; exact qS_no (fun c t e => by injection e with e _; rw [← e]; exact hc))])
                clear hd hc hl
                have HT : Hid (wr.there w.heap.size 0 7) := Lib.hid (there_of HZ.out _ _ (by decide))
                go_wp2_with ((with_reducible show wpList _ _ _ (⟨none, .store 23 _ _, _, _, _, _⟩ :: _) _ _); refine wpList_store_mid rfl 23 (.tmp 2) (.tmp 79) rfl w.heap.size 0 (cellsV zeroL).toArray rfl rfl HT.out HI.out (all_oneCell_toArray (cellsV_one _)) ?_)
                exact bodyPost_ret (v := lineR none) (results_cell_two rfl _ _ w.heap.size 23 (cellsV zeroL).toArray (0, 0) _ (.int .i64 123) rfl rfl (heap_setCells (cellsV zeroL) [] (cellsV zeroL) [] wr HZ.out rfl) Tryz.underlying23 (by rfl) HI.out) rfl ⟨by rw [HN.out], (HS.out.trans' (F' := fun b => b = w.heap.size) (spares_setCells _ _ _ (Spares.refl _ _)) (fun b hb => .inr (by omega))).below0⟩
            · have HN : Hid (lineF s.data.toList = none) := Lib.hid (by rw [HV.out, hl, steps_bad hk3 HP.out (by rw [List.drop_eq_nil_of_le (by omega)]; rfl)])
              clear hl
              have HT : Hid (wr.there w.heap.size 0 7) := Lib.hid (there_of HZ.out _ _ (by decide))
              go_wp2_with ((with_reducible show wpList _ _ _ (⟨none, .store 23 _ _, _, _, _, _⟩ :: _) _ _); refine wpList_store_mid rfl 23 (.tmp 2) (.tmp 79) rfl w.heap.size 0 (cellsV zeroL).toArray rfl rfl HT.out HI.out (all_oneCell_toArray (cellsV_one _)) ?_)
              exact bodyPost_ret (v := lineR none) (results_cell_two rfl _ _ w.heap.size 23 (cellsV zeroL).toArray (0, 0) _ (.int .i64 123) rfl rfl (heap_setCells (cellsV zeroL) [] (cellsV zeroL) [] wr HZ.out rfl) Tryz.underlying23 (by rfl) HI.out) rfl ⟨by rw [HN.out], (HS.out.trans' (F' := fun b => b = w.heap.size) (spares_setCells _ _ _ (Spares.refl _ _)) (fun b hb => .inr (by omega))).below0⟩
          · obtain rfl : k = 3 := by omega
            have HJ := Lib.hid hj
            go_wp2
            go_meet
            exact ⟨xs, j, rfl, HJ.out, HP, HB, HL, HZ, HS⟩
      case rest =>
        obtain ⟨xs, j, rfl, hj, HP, HB, HL, HZ, HS⟩ := hcut
        obtain ⟨m, g, u, rfl, hT⟩ := steps_three HP.out
        obtain ⟨hw, hhw⟩ : ∃ hw, howF wd = hw := ⟨_, rfl⟩
        have HV2 : Hid (lineF s.data.toList = if hw < 0 then none else match numsF (l.drop j) with
            | none => none
            | some (a, b) => some ⟨t, hw, m, g, u, a, b⟩) := Lib.hid (by rw [HV.out, HLL.out, hT, hhw])
        obtain ⟨M, hM⟩ : ∃ M, arrS m = M := ⟨_, rfl⟩
        obtain ⟨G, hG⟩ : ∃ G, arrS g = G := ⟨_, rfl⟩
        obtain ⟨U, hU⟩ : ∃ U, arrS u = U := ⟨_, rfl⟩
        have HBM : Hid (wc.heap[b]? = some (.cells #[.string M, .string G, .string U] 58 (0, 0))) := Lib.hid (by rw [← hM, ← hG, ← hU]; exact HB.out)
        clear HB
        have HB := HBM
        have HMM := Lib.hid hM
        have HGG := Lib.hid hG
        have HUU := Lib.hid hU
        rw [hhw] at HL
        obtain ⟨R, hR⟩ : ∃ R, s.extract j s.size = R := ⟨_, rfl⟩
        have hRd : R.data.toList = l.drop j := by rw [← hR, extract_arr, arrS_list, HLL.out]
        have hRs : R.size = s.size - j := by rw [← size_list, hRd, List.length_drop, hlen]
        have HRD := Lib.hid hRd
        have hRz : R.size ≤ 100000000 := by omega
        have c1 : wc.cell? ⟨L, 1, none⟩ = some (.int .i64 hw) := by rw [Lib.cell_of_heap HL.out]; rfl
        clear HBM hM hG hU hT hhw HV HV1 HX HWW H0 HT1 HX1 HP hl hlen hRd hRs
        by_cases h4 : R.size < 4
        · have h4' : (R.size : Int) < 4 := by omega
          have HN : Hid (lineF s.data.toList = none) := Lib.hid (by rw [HV2.out, nums_short (by rw [← HRD.out, size_list]; exact h4)]; split <;> rfl)
          have HT : Hid (wc.there w.heap.size 0 7) := Lib.hid (there_of HZ.out _ _ (by decide))
          go_wp2_with ((with_reducible show wpList _ _ _ (⟨none, .store 23 _ _, _, _, _, _⟩ :: _) _ _); refine wpList_store_mid rfl 23 (.tmp 2) (.tmp 110) rfl w.heap.size 0 (cellsV zeroL).toArray rfl rfl HT.out HI.out (all_oneCell_toArray (cellsV_one _)) ?_)
          exact bodyPost_ret (v := lineR none) (results_cell_two rfl _ _ w.heap.size 23 (cellsV zeroL).toArray (0, 0) _ (.int .i64 123) rfl rfl (heap_setCells (cellsV zeroL) [] (cellsV zeroL) [] wc HZ.out rfl) Tryz.underlying23 (by rfl) HI.out) rfl ⟨by rw [HN.out], (HS.out.trans' (F' := fun b => b = w.heap.size) (spares_setCells _ _ _ (Spares.refl _ _)) (fun b hb => .inr (by omega))).below0⟩
        have h4' : ¬ (R.size : Int) < 4 := by omega
        have hd0 := drop_cons R 0 (by omega)
        rw [List.drop_zero, Nat.zero_add] at hd0
        by_cases hc : R[0] = 32
        case neg =>
          have hc' : ¬ (R[0].toNat : Int) = 32 := fun h => hc ((byte_nat _).2 h)
          have hcq : ((R[0].toNat : Int) != 32) = true := by simpa using hc'
          have HN : Hid (lineF s.data.toList = none) := Lib.hid (by rw [HV2.out, ← HRD.out, hd0, nums_bare hc]; split <;> rfl)
          clear hd0 hc
          have HT : Hid (wc.there w.heap.size 0 7) := Lib.hid (there_of HZ.out _ _ (by decide))
          go_wp2_with ((with_reducible show wpList _ _ _ (⟨none, .store 23 _ _, _, _, _, _⟩ :: _) _ _); refine wpList_store_mid rfl 23 (.tmp 2) (.tmp 110) rfl w.heap.size 0 (cellsV zeroL).toArray rfl rfl HT.out HI.out (all_oneCell_toArray (cellsV_one _)) ?_)
          exact bodyPost_ret (v := lineR none) (results_cell_two rfl _ _ w.heap.size 23 (cellsV zeroL).toArray (0, 0) _ (.int .i64 123) rfl rfl (heap_setCells (cellsV zeroL) [] (cellsV zeroL) [] wc HZ.out rfl) Tryz.underlying23 (by rfl) HI.out) rfl ⟨by rw [HN.out], (HS.out.trans' (F' := fun b => b = w.heap.size) (spares_setCells _ _ _ (Spares.refl _ _)) (fun b hb => .inr (by omega))).below0⟩
        have hc' : (R[0].toNat : Int) = 32 := (byte_nat _).1 hc
        obtain ⟨T, hTT⟩ : ∃ T, R.data.toList.drop 1 = T := ⟨_, rfl⟩
        have HRT : Hid (l.drop j = 32 :: T) := Lib.hid (by rw [← HRD.out, hd0, hc, hTT])
        have HTT := Lib.hid hTT
        have hTl : T.length = R.size - 1 := by rw [← hTT, List.length_drop, size_list]
        clear hd0 hc hTT
        by_cases hneg : hw < 0
        · have HN : Hid (lineF s.data.toList = none) := Lib.hid (by rw [HV2.out, if_pos hneg])
          have HT : Hid (wc.there w.heap.size 0 7) := Lib.hid (there_of HZ.out _ _ (by decide))
          go_wp2_with ((with_reducible show wpList _ _ _ (⟨none, .store 23 _ _, _, _, _, _⟩ :: _) _ _); refine wpList_store_mid rfl 23 (.tmp 2) (.tmp 110) rfl w.heap.size 0 (cellsV zeroL).toArray rfl rfl HT.out HI.out (all_oneCell_toArray (cellsV_one _)) ?_)
          exact bodyPost_ret (v := lineR none) (results_cell_two rfl _ _ w.heap.size 23 (cellsV zeroL).toArray (0, 0) _ (.int .i64 123) rfl rfl (heap_setCells (cellsV zeroL) [] (cellsV zeroL) [] wc HZ.out rfl) Tryz.underlying23 (by rfl) HI.out) rfl ⟨by rw [HN.out], (HS.out.trans' (F' := fun b => b = w.heap.size) (spares_setCells _ _ _ (Spares.refl _ _)) (fun b hb => .inr (by omega))).below0⟩
        have HV3 : Hid (lineF s.data.toList = match numsF (32 :: T) with
            | none => none
            | some (a, b) => some ⟨t, hw, m, g, u, a, b⟩) := Lib.hid (by rw [HV2.out, if_neg hneg, HRT.out])
        have hWT := word_le T
        have HWT := Lib.hid hWT
        go_upto_region 28 with (fail)
        iterate 8 (first | go_skip | go_step | go_upon | go_back | go_simp)
        go_cut [14] from 19 (fun s14 wx => s14 = .int .i64 ((1 + (wordOf T).length : Nat) : Int) ∧ wx = wc)
        case first =>
          go_wp2
          go_loop [14] (fun i => ∃ q : Nat, 1 ≤ q ∧ q ≤ 1 + (wordOf T).length ∧ i = .int .i64 q) (fun i => R.size - (intOf i).toNat)
          case atStart => exact ⟨1, by omega, by omega, rfl⟩
          case round =>
            obtain ⟨q, hq1, hq2, rfl⟩ := hrel
            by_cases hlt : q < R.size
            · have hl2 : q - 1 < (R.data.toList.drop 1).length := by rw [List.length_drop, size_list]; omega
              have hg := list_at R 1 q hq1 hlt hl2
              have hwa := word_at (R.data.toList.drop 1) (q - 1) (by rw [HTT.out]; omega) hl2
              rw [hg, HTT.out] at hwa
              by_cases hc : R[q] = 32
              · have hc2 : (R[q].toNat : Int) = 32 := (byte_nat _).1 hc
                have HQ : Hid (q = 1 + (wordOf T).length) := Lib.hid (by have := hwa.2 hc; omega)
                clear hwa hg hl2 hc
                go_wp2
                go_meet
                exact ⟨by rw [HQ.out], rfl⟩
              · have hc2 : ¬ (R[q].toNat : Int) = 32 := fun h => hc ((byte_nat _).2 h)
                have hq3 : q + 1 ≤ 1 + (wordOf T).length := by have := hwa.1 hc; omega
                clear hwa hg hl2 hc
                go_wp2
                go_round
                case rel => exact ⟨q + 1, by omega, hq3, by go_num⟩
                case measure => simp [intOf]; omega
            · have HQ : Hid (q = 1 + (wordOf T).length) := Lib.hid (by have := HWT.out; omega)
              go_wp2
              go_meet
              exact ⟨by rw [HQ.out], rfl⟩
        case rest =>
          obtain ⟨rfl, rfl⟩ := hcut
          obtain ⟨Q, hQ⟩ : ∃ Q, 1 + (wordOf T).length = Q := ⟨_, rfl⟩
          rw [hQ]
          by_cases hend : (wordOf T).length = T.length
          · have hqe : (Q : Int) = (R.size : Int) := by omega
            have HN : Hid (lineF s.data.toList = none) := Lib.hid (by rw [HV3.out, nums_one hend])
            clear hend hTl hQ hWT
            have HT : Hid (wc.there w.heap.size 0 7) := Lib.hid (there_of HZ.out _ _ (by decide))
            go_wp2_with ((with_reducible show wpList _ _ _ (⟨none, .store 23 _ _, _, _, _, _⟩ :: _) _ _); refine wpList_store_mid rfl 23 (.tmp 2) (.tmp 127) rfl w.heap.size 0 (cellsV zeroL).toArray rfl rfl HT.out HI.out (all_oneCell_toArray (cellsV_one _)) ?_)
            exact bodyPost_ret (v := lineR none) (results_cell_two rfl _ _ w.heap.size 23 (cellsV zeroL).toArray (0, 0) _ (.int .i64 123) rfl rfl (heap_setCells (cellsV zeroL) [] (cellsV zeroL) [] wc HZ.out rfl) Tryz.underlying23 (by rfl) HI.out) rfl ⟨by rw [HN.out], (HS.out.trans' (F' := fun b => b = w.heap.size) (spares_setCells _ _ _ (Spares.refl _ _)) (fun b hb => .inr (by omega))).below0⟩
          have hqe : ¬ (Q : Int) = (R.size : Int) := by omega
          have hq1 : 1 ≤ Q := by omega
          have hq2 : Q + 1 ≤ R.size := by omega
          have HTW : Hid (numsF (32 :: T) = match wholeF (wordOf T), wholeF (T.drop ((wordOf T).length + 1)) with
            | some a, some b => some (a, b)
            | _, _ => none) := Lib.hid (nums_two hend)
          have x1 : R.extract 1 Q = arrS (wordOf T) := by rw [← HTT.out]; exact extract_word R 1 Q hq1 (by rw [HTT.out, hQ])
          have x2 : R.extract (Q + 1) R.size = arrS (T.drop ((wordOf T).length + 1)) := by rw [extract_arr, ← HTT.out, List.drop_drop, ← hQ, HTT.out, Nat.add_assoc]
          obtain ⟨B1, hB1⟩ : ∃ B1, arrS (wordOf T) = B1 := ⟨_, rfl⟩
          obtain ⟨B2, hB2⟩ : ∃ B2, arrS (T.drop ((wordOf T).length + 1)) = B2 := ⟨_, rfl⟩
          have hsz1 : B1.size ≤ 9223372036854775807 := by rw [← hB1, arrS_size]; omega
          have hsz2 : B2.size ≤ 9223372036854775807 := by rw [← hB2, arrS_size, List.length_drop]; omega
          have cA := fun x => refWhole_any B1 x hsz1
          have cB := fun x => refWhole_any B2 x hsz2
          rw [show B1.data.toList = wordOf T by rw [← hB1, arrS_list]] at cA
          rw [show B2.data.toList = T.drop ((wordOf T).length + 1) by rw [← hB2, arrS_list]] at cB
          rw [hB1] at x1
          rw [hB2] at x2
          unfold wholeV at cA cB
          clear hB1 hB2 hsz1 hsz2 hend hQ hWT hTl
          cases ha : wholeF (wordOf T) with
          | none =>
            rw [ha] at cA HTW
            obtain ⟨a0, ha0⟩ : ∃ a0, (numF (wordOf T) 9).getD 0 = a0 := ⟨_, rfl⟩
            obtain ⟨b0, hb0⟩ : ∃ b0, (numF (T.drop ((wordOf T).length + 1)) 9).getD 0 = b0 := ⟨_, rfl⟩
            obtain ⟨k0, hk0⟩ : ∃ k0, (wholeF (T.drop ((wordOf T).length + 1))).isSome = k0 := ⟨_, rfl⟩
            rw [ha0] at cA
            rw [hb0, hk0] at cB
            simp only [Option.isSome_none] at cA
            have HN : Hid (lineF s.data.toList = none) := Lib.hid (by rw [HV3.out, HTW.out])
            clear ha ha0 hb0 hk0
            go_wp2_with fail
            refine (cA _).mono ?_
            rintro e w4 ⟨rfl, n1, rfl⟩
            go_wp2_with fail
            refine (cB _).mono ?_
            rintro e w5 ⟨rfl, n2, rfl⟩
            have hst : Spares nowhere wc ((wc.drewN n1).drewN n2) := ((Spares.refl _ _).drewN _).drewN _
            obtain ⟨y2, hy2⟩ : ∃ y2, (wc.drewN n1).drewN n2 = y2 := ⟨_, rfl⟩
            rw [hy2] at hst
            rw [hy2]
            have HL2 := Lib.hid (HL.out.move hst (fun h => h))
            have HZ2 := Lib.hid (HZ.out.move hst (fun h => h))
            have HS2 := Lib.hid (HS.out.trans hst)
            have HB2 := Lib.hid (hst.heap HB.out (fun h => h))
            clear hst hy2 cA cB
            have HT : Hid (y2.there w.heap.size 0 7) := Lib.hid (there_of HZ2.out _ _ (by decide))
            go_wp2_with ((with_reducible show wpList _ _ _ (⟨none, .store 23 _ _, _, _, _, _⟩ :: _) _ _); refine wpList_store_mid rfl 23 (.tmp 2) (.tmp 149) rfl w.heap.size 0 (cellsV zeroL).toArray rfl rfl HT.out HI.out (all_oneCell_toArray (cellsV_one _)) ?_)
            exact bodyPost_ret (v := lineR none) (results_cell_two rfl _ _ w.heap.size 23 (cellsV zeroL).toArray (0, 0) _ (.int .i64 123) rfl rfl (heap_setCells (cellsV zeroL) [] (cellsV zeroL) [] y2 HZ2.out rfl) Tryz.underlying23 (by rfl) HI.out) rfl ⟨by rw [HN.out], (HS2.out.trans' (F' := fun b => b = w.heap.size) (spares_setCells _ _ _ (Spares.refl _ _)) (fun b hb => .inr (by omega))).below0⟩
          | some x =>
            cases hb : wholeF (T.drop ((wordOf T).length + 1)) with
            | none =>
              rw [ha] at cA HTW
              rw [hb] at cB HTW
              obtain ⟨a0, ha0⟩ : ∃ a0, (numF (wordOf T) 9).getD 0 = a0 := ⟨_, rfl⟩
              obtain ⟨b0, hb0⟩ : ∃ b0, (numF (T.drop ((wordOf T).length + 1)) 9).getD 0 = b0 := ⟨_, rfl⟩
              rw [ha0] at cA
              rw [hb0] at cB
              simp only [Option.isSome_some] at cA
              simp only [Option.isSome_none] at cB
              have HN : Hid (lineF s.data.toList = none) := Lib.hid (by rw [HV3.out, HTW.out])
              clear ha hb ha0 hb0
              go_wp2_with fail
              refine (cA _).mono ?_
              rintro e w4 ⟨rfl, n1, rfl⟩
              go_wp2_with fail
              refine (cB _).mono ?_
              rintro e w5 ⟨rfl, n2, rfl⟩
              have hst : Spares nowhere wc ((wc.drewN n1).drewN n2) := ((Spares.refl _ _).drewN _).drewN _
              obtain ⟨y2, hy2⟩ : ∃ y2, (wc.drewN n1).drewN n2 = y2 := ⟨_, rfl⟩
              rw [hy2] at hst
              rw [hy2]
              have HL2 := Lib.hid (HL.out.move hst (fun h => h))
              have HZ2 := Lib.hid (HZ.out.move hst (fun h => h))
              have HS2 := Lib.hid (HS.out.trans hst)
              have HB2 := Lib.hid (hst.heap HB.out (fun h => h))
              clear hst hy2 cA cB
              have HT : Hid (y2.there w.heap.size 0 7) := Lib.hid (there_of HZ2.out _ _ (by decide))
              go_wp2_with ((with_reducible show wpList _ _ _ (⟨none, .store 23 _ _, _, _, _, _⟩ :: _) _ _); refine wpList_store_mid rfl 23 (.tmp 2) (.tmp 149) rfl w.heap.size 0 (cellsV zeroL).toArray rfl rfl HT.out HI.out (all_oneCell_toArray (cellsV_one _)) ?_)
              exact bodyPost_ret (v := lineR none) (results_cell_two rfl _ _ w.heap.size 23 (cellsV zeroL).toArray (0, 0) _ (.int .i64 123) rfl rfl (heap_setCells (cellsV zeroL) [] (cellsV zeroL) [] y2 HZ2.out rfl) Tryz.underlying23 (by rfl) HI.out) rfl ⟨by rw [HN.out], (HS2.out.trans' (F' := fun b => b = w.heap.size) (spares_setCells _ _ _ (Spares.refl _ _)) (fun b hb => .inr (by omega))).below0⟩
            | some y =>
              rw [(whole_word ha).2.1] at cA
              rw [(whole_word hb).2.1] at cB
              rw [ha] at cA HTW
              rw [hb] at cB HTW
              simp only [Option.isSome_some, Option.getD_some] at cA cB
              have HN : Hid (lineF s.data.toList = some ⟨t, hw, m, g, u, x, y⟩) := Lib.hid (by rw [HV3.out, HTW.out])
              clear ha hb
              go_wp2_with fail
              refine (cA _).mono ?_
              rintro e w4 ⟨rfl, n1, rfl⟩
              go_wp2_with fail
              refine (cB _).mono ?_
              rintro e w5 ⟨rfl, n2, rfl⟩
              have hst : Spares nowhere wc ((wc.drewN n1).drewN n2) := ((Spares.refl _ _).drewN _).drewN _
              obtain ⟨y2, hy2⟩ : ∃ y2, (wc.drewN n1).drewN n2 = y2 := ⟨_, rfl⟩
              rw [hy2] at hst
              rw [hy2]
              have HL2 := Lib.hid (HL.out.move hst (fun h => h))
              have HZ2 := Lib.hid (HZ.out.move hst (fun h => h))
              have HS2 := Lib.hid (HS.out.trans hst)
              have HB2 := Lib.hid (hst.heap HB.out (fun h => h))
              clear hst hy2 cA cB
              go_upto_region 37 with (fail)
              refine wp_region_held_drew (S := fun x => x.heap[b]? = some (.cells #[.string M, .string G, .string U] 58 (0, 0))) (by kernel_rfl) HB2.out (fun hH => ?_)
              have HL3 : Hid (LAt y2.drew L (lineV t hw ⟨#[]⟩ ⟨#[]⟩ ⟨#[]⟩ 0 0)) := Lib.hid HL2.out
              have HZ3 : Hid (LAt y2.drew w.heap.size (cellsV zeroL).toArray) := Lib.hid HZ2.out
              have HS3 : Hid (Spares nowhere w y2.drew) := Lib.hid HS2.out.drew
              obtain ⟨x0, hx0⟩ : ∃ y, y2.drew = y := ⟨_, rfl⟩
              rw [hx0] at hH HL3 HZ3 HS3 ⊢
              clear hx0 HL2 HZ2 HS2 HB2
              refine wpAnyH_takeTo (i := 0) (d := some 150) (v := .pointer (some ⟨b, 0, none⟩)) rfl rfl (by kernel_rfl) (by kernel_rfl) (by kernel_rfl) (fun _ _ _ h => h) (Or.inl ⟨by rfl, fun x hx => ?_⟩) hH ?_
              · clear hx
                go_simp
              try simp only [Act.put, List.setIfInBounds_toArray, List.set_cons_zero, List.set_cons_succ]
              refine wpAnyH_takeTo (i := 1) (d := some 151) (v := .string M) rfl rfl (by kernel_rfl) (by kernel_rfl) (by kernel_rfl) (fun _ _ _ h => h) (Or.inl ⟨by rfl, fun x hx => ?_⟩) hH ?_
              · have g0 : x.cell? ⟨b, 0, none⟩ = some (.string M) := by rw [Lib.cell_of_heap hx]; rfl
                clear hx
                go_simp
              try simp only [Act.put, List.setIfInBounds_toArray, List.set_cons_zero, List.set_cons_succ]
              refine wpAnyH_takeTo (i := 2) (d := some 152) (v := .pointer (some ⟨b, 1, none⟩)) rfl rfl (by kernel_rfl) (by kernel_rfl) (by kernel_rfl) (fun _ _ _ h => h) (Or.inl ⟨by rfl, fun x hx => ?_⟩) hH ?_
              · clear hx
                go_simp
              try simp only [Act.put, List.setIfInBounds_toArray, List.set_cons_zero, List.set_cons_succ]
              refine wpAnyH_takeTo (i := 3) (d := some 153) (v := .string G) rfl rfl (by kernel_rfl) (by kernel_rfl) (by kernel_rfl) (fun _ _ _ h => h) (Or.inl ⟨by rfl, fun x hx => ?_⟩) hH ?_
              · have g0 : x.cell? ⟨b, 1, none⟩ = some (.string G) := by rw [Lib.cell_of_heap hx]; rfl
                clear hx
                go_simp
              try simp only [Act.put, List.setIfInBounds_toArray, List.set_cons_zero, List.set_cons_succ]
              refine wpAnyH_takeTo (i := 4) (d := some 154) (v := .pointer (some ⟨b, 2, none⟩)) rfl rfl (by kernel_rfl) (by kernel_rfl) (by kernel_rfl) (fun _ _ _ h => h) (Or.inl ⟨by rfl, fun x hx => ?_⟩) hH ?_
              · clear hx
                go_simp
              try simp only [Act.put, List.setIfInBounds_toArray, List.set_cons_zero, List.set_cons_succ]
              refine wpAnyH_takeTo (i := 5) (d := some 155) (v := .string U) rfl rfl (by kernel_rfl) (by kernel_rfl) (by kernel_rfl) (fun _ _ _ h => h) (Or.inl ⟨by rfl, fun x hx => ?_⟩) hH ?_
              · have g0 : x.cell? ⟨b, 2, none⟩ = some (.string U) := by rw [Lib.cell_of_heap hx]; rfl
                clear hx
                go_simp
              try simp only [Act.put, List.setIfInBounds_toArray, List.set_cons_zero, List.set_cons_succ]
              refine wpAnyH_takeTo (i := 6) (d := some 156) (v := .int .i64 (x : Int)) rfl rfl (by kernel_rfl) (by kernel_rfl) (by kernel_rfl) (fun _ _ _ h => h) (Or.inl ⟨by rfl, fun x9 hx => ?_⟩) hH ?_
              · clear hx
                go_simp
              try simp only [Act.put, List.setIfInBounds_toArray, List.set_cons_zero, List.set_cons_succ]
              refine wpAnyH_takeTo (i := 7) (d := some 157) (v := .int .i64 (y : Int)) rfl rfl (by kernel_rfl) (by kernel_rfl) (by kernel_rfl) (fun _ _ _ h => h) (Or.inl ⟨by rfl, fun x9 hx => ?_⟩) hH ?_
              · clear hx
                go_simp
              try simp only [Act.put, List.setIfInBounds_toArray, List.set_cons_zero, List.set_cons_succ]
              refine wpAnyH_takeTo (i := 8) (d := some 158) (v := .pointer (some ⟨L, 2, none⟩)) rfl rfl (by kernel_rfl) (by kernel_rfl) (by kernel_rfl) (fun _ _ _ h => h) (Or.inl ⟨by rfl, fun x9 hx => ?_⟩) hH ?_
              · clear hx
                go_simp
              try simp only [Act.put, List.setIfInBounds_toArray, List.set_cons_zero, List.set_cons_succ]
              have c2 : x0.cell? ⟨L, 2, none⟩ = some (.string ⟨#[]⟩) := by rw [Lib.cell_of_heap HL3.out]; rfl
              have f2 : x0.frozen? ⟨L, 2, none⟩ = false := heap_frozen HL3.out 2
              obtain ⟨x1, hx1⟩ : ∃ zz, x0.setCell ⟨L, 2, none⟩ (.string M) = zz := ⟨_, rfl⟩
              have hst : Spares (only L) x0 x1 := by rw [← hx1]; exact spares_set (Spares.refl _ _) 2 _
              have HL4 : Hid (LAt x1 L (lineV t hw M ⟨#[]⟩ ⟨#[]⟩ 0 0)) := Lib.hid (by rw [← hx1]; exact heap_set HL3.out 2 _)
              have HZ4 := Lib.hid (HZ3.out.move hst (by unfold only; have := HLZ.out; omega))
              have HS4 := Lib.hid (HS3.out.trans' hst (fun b hb => .inr (by unfold only at hb; have := HLZ.out; omega)))
              have hH0 := hst.heap hH (by unfold only; have := HLb.out; omega)
              refine wpAnyH_stepTo (i := 9) (d := none) (by kernel_rfl) rfl rfl (by rfl) (fun v z => v = undef ∧ z = x1) (fun K' hK' => ?_) ?_
              · go_simp
                try rw [hx1]
                exact hK' _ _ ⟨rfl, rfl⟩
              rintro v9 z9 ⟨hv9, hz9⟩
              rw [hv9, hz9]
              clear hv9 hz9 v9 z9
              refine ⟨hH0, ?_⟩
              clear c2 f2 hst hH HL3 HZ3 HS3 hx1
              have hH := hH0
              clear hH0
              try simp only [Act.put]
              refine wpAnyH_takeTo (i := 10) (d := some 159) (v := .pointer (some ⟨L, 3, none⟩)) rfl rfl (by kernel_rfl) (by kernel_rfl) (by kernel_rfl) (fun _ _ _ h => h) (Or.inl ⟨by rfl, fun x9 hx => ?_⟩) hH ?_
              · clear hx
                go_simp
              try simp only [Act.put, List.setIfInBounds_toArray, List.set_cons_zero, List.set_cons_succ]
              have c3 : x1.cell? ⟨L, 3, none⟩ = some (.string ⟨#[]⟩) := by rw [Lib.cell_of_heap HL4.out]; rfl
              have f3 : x1.frozen? ⟨L, 3, none⟩ = false := heap_frozen HL4.out 3
              obtain ⟨x2, hx2⟩ : ∃ zz, x1.setCell ⟨L, 3, none⟩ (.string G) = zz := ⟨_, rfl⟩
              have hst : Spares (only L) x1 x2 := by rw [← hx2]; exact spares_set (Spares.refl _ _) 3 _
              have HL5 : Hid (LAt x2 L (lineV t hw M G ⟨#[]⟩ 0 0)) := Lib.hid (by rw [← hx2]; exact heap_set HL4.out 3 _)
              have HZ5 := Lib.hid (HZ4.out.move hst (by unfold only; have := HLZ.out; omega))
              have HS5 := Lib.hid (HS4.out.trans' hst (fun b hb => .inr (by unfold only at hb; have := HLZ.out; omega)))
              have hH1 := hst.heap hH (by unfold only; have := HLb.out; omega)
              refine wpAnyH_stepTo (i := 11) (d := none) (by kernel_rfl) rfl rfl (by rfl) (fun v z => v = undef ∧ z = x2) (fun K' hK' => ?_) ?_
              · go_simp
                try rw [hx2]
                exact hK' _ _ ⟨rfl, rfl⟩
              rintro v9 z9 ⟨hv9, hz9⟩
              rw [hv9, hz9]
              clear hv9 hz9 v9 z9
              refine ⟨hH1, ?_⟩
              clear c3 f3 hst hH HL4 HZ4 HS4 hx2
              have hH := hH1
              clear hH1
              try simp only [Act.put]
              refine wpAnyH_takeTo (i := 12) (d := some 160) (v := .pointer (some ⟨L, 4, none⟩)) rfl rfl (by kernel_rfl) (by kernel_rfl) (by kernel_rfl) (fun _ _ _ h => h) (Or.inl ⟨by rfl, fun x9 hx => ?_⟩) hH ?_
              · clear hx
                go_simp
              try simp only [Act.put, List.setIfInBounds_toArray, List.set_cons_zero, List.set_cons_succ]
              have c4 : x2.cell? ⟨L, 4, none⟩ = some (.string ⟨#[]⟩) := by rw [Lib.cell_of_heap HL5.out]; rfl
              have f4 : x2.frozen? ⟨L, 4, none⟩ = false := heap_frozen HL5.out 4
              obtain ⟨x3, hx3⟩ : ∃ zz, x2.setCell ⟨L, 4, none⟩ (.string U) = zz := ⟨_, rfl⟩
              have hst : Spares (only L) x2 x3 := by rw [← hx3]; exact spares_set (Spares.refl _ _) 4 _
              have HL6 : Hid (LAt x3 L (lineV t hw M G U 0 0)) := Lib.hid (by rw [← hx3]; exact heap_set HL5.out 4 _)
              have HZ6 := Lib.hid (HZ5.out.move hst (by unfold only; have := HLZ.out; omega))
              have HS6 := Lib.hid (HS5.out.trans' hst (fun b hb => .inr (by unfold only at hb; have := HLZ.out; omega)))
              have hH2 := hst.heap hH (by unfold only; have := HLb.out; omega)
              refine wpAnyH_stepTo (i := 13) (d := none) (by kernel_rfl) rfl rfl (by rfl) (fun v z => v = undef ∧ z = x3) (fun K' hK' => ?_) ?_
              · go_simp
                try rw [hx3]
                exact hK' _ _ ⟨rfl, rfl⟩
              rintro v9 z9 ⟨hv9, hz9⟩
              rw [hv9, hz9]
              clear hv9 hz9 v9 z9
              refine ⟨hH2, ?_⟩
              clear c4 f4 hst hH HL5 HZ5 HS5 hx3
              have hH := hH2
              clear hH2
              try simp only [Act.put]
              refine wpAnyH_takeTo (i := 14) (d := some 161) (v := .pointer (some ⟨L, 5, none⟩)) rfl rfl (by kernel_rfl) (by kernel_rfl) (by kernel_rfl) (fun _ _ _ h => h) (Or.inl ⟨by rfl, fun x9 hx => ?_⟩) hH ?_
              · clear hx
                go_simp
              try simp only [Act.put, List.setIfInBounds_toArray, List.set_cons_zero, List.set_cons_succ]
              have c5 : x3.cell? ⟨L, 5, none⟩ = some (.int .i64 0) := by rw [Lib.cell_of_heap HL6.out]; rfl
              have f5 : x3.frozen? ⟨L, 5, none⟩ = false := heap_frozen HL6.out 5
              obtain ⟨x4, hx4⟩ : ∃ zz, x3.setCell ⟨L, 5, none⟩ (.int .i64 (x : Int)) = zz := ⟨_, rfl⟩
              have hst : Spares (only L) x3 x4 := by rw [← hx4]; exact spares_set (Spares.refl _ _) 5 _
              have HL7 : Hid (LAt x4 L (lineV t hw M G U x 0)) := Lib.hid (by rw [← hx4]; exact heap_set HL6.out 5 _)
              have HZ7 := Lib.hid (HZ6.out.move hst (by unfold only; have := HLZ.out; omega))
              have HS7 := Lib.hid (HS6.out.trans' hst (fun b hb => .inr (by unfold only at hb; have := HLZ.out; omega)))
              have hH3 := hst.heap hH (by unfold only; have := HLb.out; omega)
              refine wpAnyH_stepTo (i := 15) (d := none) (by kernel_rfl) rfl rfl (by rfl) (fun v z => v = undef ∧ z = x4) (fun K' hK' => ?_) ?_
              · go_simp
                try rw [hx4]
                exact hK' _ _ ⟨rfl, rfl⟩
              rintro v9 z9 ⟨hv9, hz9⟩
              rw [hv9, hz9]
              clear hv9 hz9 v9 z9
              refine ⟨hH3, ?_⟩
              clear c5 f5 hst hH HL6 HZ6 HS6 hx4
              have hH := hH3
              clear hH3
              try simp only [Act.put]
              refine wpAnyH_takeTo (i := 16) (d := some 162) (v := .pointer (some ⟨L, 6, none⟩)) rfl rfl (by kernel_rfl) (by kernel_rfl) (by kernel_rfl) (fun _ _ _ h => h) (Or.inl ⟨by rfl, fun x9 hx => ?_⟩) hH ?_
              · clear hx
                go_simp
              try simp only [Act.put, List.setIfInBounds_toArray, List.set_cons_zero, List.set_cons_succ]
              have c6 : x4.cell? ⟨L, 6, none⟩ = some (.int .i64 0) := by rw [Lib.cell_of_heap HL7.out]; rfl
              have f6 : x4.frozen? ⟨L, 6, none⟩ = false := heap_frozen HL7.out 6
              obtain ⟨x5, hx5⟩ : ∃ zz, x4.setCell ⟨L, 6, none⟩ (.int .i64 (y : Int)) = zz := ⟨_, rfl⟩
              have hst : Spares (only L) x4 x5 := by rw [← hx5]; exact spares_set (Spares.refl _ _) 6 _
              have HL8 : Hid (LAt x5 L (lineV t hw M G U x y)) := Lib.hid (by rw [← hx5]; exact heap_set HL7.out 6 _)
              have HZ8 := Lib.hid (HZ7.out.move hst (by unfold only; have := HLZ.out; omega))
              have HS8 := Lib.hid (HS7.out.trans' hst (fun b hb => .inr (by unfold only at hb; have := HLZ.out; omega)))
              have hH4 := hst.heap hH (by unfold only; have := HLb.out; omega)
              refine wpAnyH_stepTo (i := 17) (d := none) (by kernel_rfl) rfl rfl (by rfl) (fun v z => v = undef ∧ z = x5) (fun K' hK' => ?_) ?_
              · go_simp
                try rw [hx5]
                exact hK' _ _ ⟨rfl, rfl⟩
              rintro v9 z9 ⟨hv9, hz9⟩
              rw [hv9, hz9]
              clear hv9 hz9 v9 z9
              refine ⟨hH4, ?_⟩
              clear c6 f6 hst hH HL7 HZ7 HS7 hx5
              have hH := hH4
              clear hH4
              try simp only [Act.put]
              refine wpAnyH_done (by kernel_rfl) ?_ _
              have HT : Hid (x5.there w.heap.size 0 7) := Lib.hid (there_of HZ8.out _ _ (by decide))
              have hl10 := HL8.out
              have n0 : x5.cell? ⟨L, 0, none⟩ = some (.int .i64 t) := by rw [Lib.cell_of_heap hl10]; rfl
              have n1 : x5.cell? ⟨L, 1, none⟩ = some (.int .i64 hw) := by rw [Lib.cell_of_heap hl10]; rfl
              have n2 : x5.cell? ⟨L, 2, none⟩ = some (.string M) := by rw [Lib.cell_of_heap hl10]; rfl
              have n3 : x5.cell? ⟨L, 3, none⟩ = some (.string G) := by rw [Lib.cell_of_heap hl10]; rfl
              have n4 : x5.cell? ⟨L, 4, none⟩ = some (.string U) := by rw [Lib.cell_of_heap hl10]; rfl
              have n5 : x5.cell? ⟨L, 5, none⟩ = some (.int .i64 (x : Int)) := by rw [Lib.cell_of_heap hl10]; rfl
              have n6 : x5.cell? ⟨L, 6, none⟩ = some (.int .i64 (y : Int)) := by rw [Lib.cell_of_heap hl10]; rfl
              clear hl10 hH
              go_wp2_with ((with_reducible show wpList _ _ _ (⟨none, .store 23 _ _, _, _, _, _⟩ :: _) _ _); refine wpList_store_mid rfl 23 (.tmp 2) (.tmp 163) rfl w.heap.size 0 (lineV t hw M G U x y) rfl rfl HT.out HI.out (by simp [lineV, Value.oneCell']) ?_)
              exact bodyPost_ret (v := .tuple #[.agg (lineV t hw M G U x y), .int .i64 0]) (results_cell_two rfl _ _ w.heap.size 23 (lineV t hw M G U x y) (0, 0) _ (.int .i64 0) rfl rfl (heap_setCells (lineV t hw M G U x y).toList [] (cellsV zeroL) [] x5 HZ8.out rfl) Tryz.underlying23 (by rfl) HI.out) rfl ⟨by rw [HN.out, ← HMM.out, ← HGG.out, ← HUU.out]; rfl, (HS8.out.trans' (F' := fun b => b = w.heap.size) (spares_setCells _ _ _ (Spares.refl _ _)) (fun b hb => .inr (by omega))).below0⟩
end Go.Proofs.YtkbcklaloblmeaaGreatDoor
