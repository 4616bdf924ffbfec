/-
  line.Parse, where the date is right.
  The laws' example.
  LineQuotes' walk.
  LineKeeps' walk.
  LineWrites' walk.
-/
import Derived.Test.YtkbcklaloblmeaaGreatDoorMg1
import Derived.Test.YtkbcklaloblmeaaGreatDoorMg27
import Derived.Test.YtkbcklaloblmeaaGreatDoorMg28
import Derived.Test.YtkbcklaloblmeaaGreatDoorMg30
import Derived.Test.YtkbcklaloblmeaaGreatDoorMg37
namespace Go.Proofs.YtkbcklaloblmeaaGreatDoor
open Go.RowKit LineMath ChunkS NormS DateMath

theorem MaxL.lt {w : World} (h : MaxL w) : 1 < w.heap.size := by
  obtain ⟨m, hm⟩ := h
  rcases Nat.lt_or_ge 1 w.heap.size with h | h
  · exact h
  · simp [World.cell?, Array.getElem?_eq_none h] at hm
theorem word_rest (r : Rd) : (wordS r).2.rest.length ≤ r.rest.length := by
  have := space_le r
  unfold wordS
  rw [List.length_drop]
  omega
theorem quoted_rest (r : Rd) : (quotedS r).2.rest.length ≤ r.rest.length := by
  have := space_le r
  unfold quotedS
  split
  · rename_i v t h
    have := quotedF_len h
    show t.length ≤ _
    omega
  · exact Nat.zero_le _
theorem number_rest (r : Rd) : (numberS r).2.rest.length ≤ r.rest.length := word_rest r
def lineV (t : Int) (how : Int) (m h g : ByteArray) (x y : Int) : Array Value := #[.int .i64 t, .int .i64 how, .string m, .string h, .string g, .int .i64 x, .int .i64 y]
theorem lineV_of (t how : Int) (m h g : List UInt8) (x y : Int) : lineV t how (arrS m) (arrS h) (arrS g) x y = (cellsV ⟨t, how, m, h, g, x, y⟩).toArray := rfl
def LAt (w : World) (L : Nat) (cs : Array Value) : Prop := w.heap[L]? = some (.cells cs 23 (0, 0))
theorem LAt.move {F : Nat → Prop} {w w' : World} {L : Nat} {cs : Array Value} (h : LAt w L cs) (hs : Spares F w w') (hL : ¬ F L) : LAt w' L cs := hs.heap h hL
theorem RdAt.move {F : Nat → Prop} {w w' : World} {p : Nat} {r : Rd} (h : RdAt w p r) (hs : Spares F w w') (hL : ¬ F p) : RdAt w' p r := hs.heap h hL
set_option maxRecDepth 100000 in
set_option maxHeartbeats 1200000 in
theorem lparse_good (s : ByteArray) (w : World) (t : Int) (hs : 29 ≤ s.size) (hr : readF (s.data.toList.take 29) = (t, 0)) (h1 : TabP w) (h2 : TabS w) (hm : MaxL w) (hsz : s.size ≤ 100000000) : Calls Tryz.prog 11 #[.string s] w (ParseLPost s.data.toList w) := by
  have he : (s.extract 0 29).data.toList = s.data.toList.take 29 := by rw [Lib.extract_data]; simp
  have h29 : (s.data.toList.take 29).length = 29 := by rw [List.length_take, size_list]; omega
  obtain ⟨ht, ht0, htm⟩ := read_29 h29 hr
  have hx29 : s.extract 29 s.size = arrS (s.data.toList.drop 29) := extract_arr s 29
  obtain ⟨⟨wd, r1⟩, hA⟩ : ∃ a, wordS ⟨s.data.toList.drop 29, true⟩ = a := ⟨_, rfl⟩
  obtain ⟨⟨m, r2⟩, hB⟩ : ∃ a, quotedS r1 = a := ⟨_, rfl⟩
  obtain ⟨⟨hh, r3⟩, hC⟩ : ∃ a, quotedS r2 = a := ⟨_, rfl⟩
  obtain ⟨⟨tg, r4⟩, hD⟩ : ∃ a, quotedS r3 = a := ⟨_, rfl⟩
  obtain ⟨⟨x, r5⟩, hE⟩ : ∃ a, numberS r4 = a := ⟨_, rfl⟩
  obtain ⟨⟨y, r6⟩, hF⟩ : ∃ a, numberS r5 = a := ⟨_, rfl⟩
  have HV : Hid (lineF s.data.toList = if r6.fine = true ∧ 0 ≤ howF wd ∧ r6.rest = [] then some ⟨t, howF wd, m, hh, tg, x, y⟩ else none) := Lib.hid (by
    unfold lineF
    rw [if_neg (by rw [size_list]; omega), hr, if_neg (by simp)]
    simp only [hA, hB, hC, hD, hE, hF])
  have b0 : (s.data.toList.drop 29).length ≤ 100000000 := by rw [List.length_drop, size_list]; omega
  have b1 : r1.rest.length ≤ 100000000 := by have := word_rest ⟨s.data.toList.drop 29, true⟩; rw [hA] at this; exact Nat.le_trans this b0
  have b2 : r2.rest.length ≤ 100000000 := by have := quoted_rest r1; rw [hB] at this; exact Nat.le_trans this b1
  have b3 : r3.rest.length ≤ 100000000 := by have := quoted_rest r2; rw [hC] at this; exact Nat.le_trans this b2
  have b4 : r4.rest.length ≤ 100000000 := by have := quoted_rest r3; rw [hD] at this; exact Nat.le_trans this b3
  have b5 : r5.rest.length ≤ 100000000 := by have := number_rest r4; rw [hE] at this; exact Nat.le_trans this b4
  -- the calls
  have hw1 : Spares nowhere w (w.alloc (.cells (cellsV zeroL).toArray 23)) := (Spares.refl _ _).alloc _
  have cP := parse_anyD (s.extract 0 29) (w.alloc (.cells (cellsV zeroL).toArray 23)) (h1.spares hw1 (fun h => h)) (h2.spares hw1 (fun h => h)) (by rw [ByteArray.size_extract]; omega)
  unfold ParseDPost at cP
  rw [he, hr] at cP
  have hE29 : arrD (plainT (momOf (clampN t))) = s.extract 0 29 := by
    rw [ht]
    have e : s.extract 0 29 = arrS (s.data.toList.take 29) := by
      apply ByteArray.ext
      apply Array.ext'
      show (s.extract 0 29).data.toList = (arrS _).data.toList
      rw [he, arrS_list]
    rw [e]; rfl
  obtain ⟨E, hEE⟩ : ∃ E, s.extract 0 29 = E := ⟨_, rfl⟩
  obtain ⟨X, hXX⟩ : ∃ X, arrS (s.data.toList.drop 29) = X := ⟨_, rfl⟩
  rw [hEE] at cP hE29
  rw [hXX] at hx29
  have HXX := Lib.hid hXX
  have l1 : ¬ (s.size : Int) < 29 := by omega
  have l2 : (29 : Int) ≤ (s.size : Int) := by omega
  have HCA := Lib.hid hA
  have HCB := Lib.hid hB
  have HCC := Lib.hid hC
  have HCD := Lib.hid hD
  have HCE := Lib.hid hE
  have HCF := Lib.hid hF
  have T1 := Lib.hid h1
  have T2 := Lib.hid h2
  have TM := Lib.hid hm
  have HE29 := Lib.hid hE29
  have P1 := Lib.hid h1.lt
  have P2 := Lib.hid hm.lt
  clear h1 h2 hm he h29 hA hB hC hD hE hF hE29 hw1 ht hr hXX
  unfold ParseLPost
  go_enter Tryz.func11, Tryz.ntmps11
  go_wp2_with fail
  refine cP.mono ?_
  rintro e w2 ⟨rfl, hb⟩
  have hb2 : Below w.heap.size w w2 := ((Below.refl _ _).alloc (Nat.le_refl _) _).trans (hb.mono (by simp))
  have hr2 : LAt w2 w.heap.size (cellsV zeroL).toArray := (hb.block w.heap.size (by simp)).trans (heap_alloc_new w _)
  have hz2 : w.heap.size < w2.heap.size := by have := hb.size; simp at this; omega
  have HB2 := Lib.hid hb2
  have HR2 := Lib.hid hr2
  have M1 : Hid (∀ x : Kin w2, Calls Tryz.prog 24 #[.int .i64 t] x.wd fun e w'' => e = .returned (.string E) ∧ ∃ y : Kin w2, w'' = y.wd) := Lib.hid (fun x => Kin.calls (by
    have hup : Spares nowhere w x.wd := Below.spares (hb2.trans (x.below.mono hb2.size)) (fun _ hk => .inr hk)
    have c := text_anyD t x.wd (T1.out.spares hup (fun h => h)) (T2.out.spares hup (fun h => h))
    rw [HE29.out] at c
    exact c))
  clear hb hb2 hr2 cP
  go_upto_region 4 with (fail)
  refine wp_region_kin (by kernel_rfl) (by kernel_rfl) ?_
  repeat (go_big_quiet_step (first | (go_at_call 24; with_reducible exact M1.out _) | fail))
  refine wpQuiet_nil ?_
  intro _ hx
  obtain ⟨k, rfl⟩ := hx
  obtain ⟨v, hv⟩ : ∃ v, k.wd = v := ⟨_, rfl⟩
  have hbv : Below w2.heap.size w2 v := by rw [← hv]; exact k.below
  rw [hv]
  have hbw : Below w.heap.size w v := HB2.out.trans (hbv.mono HB2.out.size)
  obtain ⟨v1, hv1⟩ : ∃ v1, (v.alloc (.cells (lineV t (-1) ⟨#[]⟩ ⟨#[]⟩ ⟨#[]⟩ 0 0) 23)).alloc (.cells #[.string X, .bool true] 54) = v1 := ⟨_, rfl⟩
  have hs1 : Spares nowhere w v1 := by rw [← hv1]; exact ((Below.spares (F := nowhere) hbw (fun _ hk => .inr hk)).alloc _).alloc _
  have hsv : Spares nowhere v v1 := by rw [← hv1]; exact ((Spares.refl _ _).alloc _).alloc _
  have hR1 : LAt v1 w.heap.size (cellsV zeroL).toArray := LAt.move (LAt.move HR2.out (Below.spares (F := nowhere) hbv (fun _ hk => .inr hk)) (fun h => h)) hsv (fun h => h)
  obtain ⟨L, hL⟩ : ∃ L, v.heap.size = L := ⟨_, rfl⟩
  have hLw : w.heap.size < L := by have := hbv.size; omega
  have hL1 : LAt v1 L (lineV t (-1) ⟨#[]⟩ ⟨#[]⟩ ⟨#[]⟩ 0 0) := by
    unfold LAt
    rw [← hv1, ← hL, Below.heap_alloc _ _ _ (by simp)]
    exact heap_alloc_new v _
  have hP1 : RdAt v1 (L + 1) ⟨s.data.toList.drop 29, true⟩ := by
    unfold RdAt
    have h := heap_alloc_new (v.alloc (.cells (lineV t (-1) ⟨#[]⟩ ⟨#[]⟩ ⟨#[]⟩ 0 0) 23)) (.cells #[.string X, .bool true] 54)
    rw [show (v.alloc (.cells (lineV t (-1) ⟨#[]⟩ ⟨#[]⟩ ⟨#[]⟩ 0 0) 23)).heap.size = L + 1 by simp [hL]] at h
    rw [← hv1, h, ← HXX.out]
  have hq1 : L + 1 ≠ 1 := by have := P2.out; omega
  have hq2 : L + 1 ≠ 0 := by have := P1.out; omega
  have cW := word_any (L + 1) _ v1 hP1 (TM.out.spares hs1 (fun h => h)) hq1 (Nat.le_trans b0 (by decide))
  unfold WordPost at cW
  rw [HCA.out] at cW
  have HV1 := Lib.hid hv1
  have HS1 := Lib.hid hs1
  have HRs := Lib.hid hR1
  have HL1 := Lib.hid hL1
  have HQ1 := Lib.hid hq1
  have HQ2 := Lib.hid hq2
  have HLW := Lib.hid hLw
  obtain ⟨W, hW⟩ : ∃ W, arrS wd = W := ⟨_, rfl⟩
  have HW := Lib.hid hW
  rw [hW] at cW
  clear hv hbv hbw hv1 hs1 hsv hR1 hL1 hP1 hq1 hq2 hLw hz2 hW k b0
  go_wp2_with fail
  change Calls _ _ _ ((v.alloc (.cells (lineV t (-1) ⟨#[]⟩ ⟨#[]⟩ ⟨#[]⟩ 0 0) 23)).alloc (.cells #[.string X, .bool true] 54)) _
  rw [HV1.out]
  refine cW.mono ?_
  rintro e w3 ⟨rfl, hr3, hs3⟩
  have hne : ¬ only (L + 1) L := by unfold only; omega
  have hneR : ¬ only (L + 1) w.heap.size := by unfold only; have := HLW.out; omega
  have HNE := Lib.hid hne
  have HNER := Lib.hid hneR
  have hmore : ∀ b, only (L + 1) b → nowhere b ∨ w.heap.size ≤ b := fun b hb => .inr (by unfold only at hb; have := HLW.out; omega)
  have HMORE := Lib.hid hmore
  have H0 : Hid (LAt w3 L (lineV t (hcur wd 0) ⟨#[]⟩ ⟨#[]⟩ ⟨#[]⟩ 0 0)) := Lib.hid (by
    have : hcur wd 0 = -1 := by unfold hcur; rw [if_neg (by omega)]
    rw [this]; exact HL1.out.move hs3 hne)
  have HR3 := Lib.hid hr3
  have HZ3 := Lib.hid (HRs.out.move hs3 hneR)
  have HS3 : Hid (Spares nowhere w w3) := Lib.hid (HS1.out.trans' hs3 hmore)
  clear hr3 hs3 hne hneR hmore cW hL
  go_wp2
  go_loopw [36] (fun i wr => ∃ k : Nat, k ≤ 6 ∧ i = .int .i64 k ∧ Hid (LAt wr L (lineV t (hcur wd k) ⟨#[]⟩ ⟨#[]⟩ ⟨#[]⟩ 0 0)) ∧ Hid (RdAt wr (L + 1) r1) ∧ Hid (LAt wr w.heap.size (cellsV zeroL).toArray) ∧ Hid (Spares nowhere w wr)) (fun i _ => 6 - (intOf i).toNat)
  case atStart => exact ⟨0, by omega, rfl, H0, HR3, HZ3, HS3⟩
  case round =>
    obtain ⟨k, hk, rfl, HL, HR, HZ, HS⟩ := hrel
    have hwL := HLW.out
    by_cases hlt : k < 6
    · have cH := how_word k hlt
      obtain ⟨H, hH⟩ : ∃ H, arrS (howB k) = H := ⟨_, rfl⟩
      by_cases hwd : wd = howB k
      · have q1 : (W.toList == H.toList) = true := by rw [← HW.out, ← hH, hwd]; simp
        have hc := hcur_yes k hlt
        rw [← hwd] at hc
        have HC := Lib.hid hc
        have c1 : wr.cell? ⟨L, 1, none⟩ = some (.int .i64 (hcur wd k)) := by rw [Lib.cell_of_heap HL.out]; rfl
        have f1 : wr.frozen? ⟨L, 1, none⟩ = false := heap_frozen HL.out 1
        simp only [hH] at cH
        clear hH hc hwd
        go_wp2_with fail
        refine (cH _).mono ?_
        rintro e w4 ⟨rfl, hw4⟩
        subst hw4
        go_wp2
        go_roundw
        case rel =>
          have hst : Spares (only L) wr (wr.setCell ⟨L, 1, none⟩ (.int .i64 (k : Int))) := spares_set (Spares.refl _ _) 1 _
          refine ⟨k + 1, by omega, by go_num, Lib.hid ?_, Lib.hid (HR.out.move hst (by unfold only; omega)), Lib.hid (HZ.out.move hst (by unfold only; omega)), Lib.hid (HS.out.trans' hst (fun b hb => .inr (by unfold only at hb; omega)))⟩
          rw [HC.out]
          exact heap_set HL.out 1 _
        case measure => simp [intOf]; omega
      · have q1 : (W.toList == H.toList) = false := by
          rw [← HW.out, ← hH, Lib.toList_data, Lib.toList_data, arrS_list, arrS_list]; simpa using hwd
        have HC := Lib.hid (hcur_no wd k hlt hwd)
        simp only [hH] at cH
        clear hH hwd
        go_wp2_with fail
        refine (cH _).mono ?_
        rintro e w4 ⟨rfl, hw4⟩
        subst hw4
        go_wp2
        go_roundw
        case rel => exact ⟨k + 1, by omega, by go_num, Lib.hid (by rw [HC.out]; exact HL.out), HR, HZ, HS⟩
        case measure => simp [intOf]; omega
    · obtain rfl : k = 6 := by omega
      have cB := quotedS_any (L + 1) r1 wr HR.out (Nat.le_trans b1 (by decide))
      unfold QuotedSPost at cB
      rw [HCB.out] at cB
      obtain ⟨M, hM⟩ : ∃ M, arrS m = M := ⟨_, rfl⟩
      obtain ⟨Hh, hHh⟩ : ∃ M, arrS hh = M := ⟨_, rfl⟩
      obtain ⟨G, hG⟩ : ∃ M, arrS tg = M := ⟨_, rfl⟩
      have HMM := Lib.hid hM
      have HHH := Lib.hid hHh
      have HGG := Lib.hid hG
      simp only [hM] at cB
      have HL0 : Hid (LAt wr L (lineV t (howF wd) ⟨#[]⟩ ⟨#[]⟩ ⟨#[]⟩ 0 0)) := Lib.hid (by rw [← hcur_end]; exact HL.out)
      clear hM hHh hG
      go_wp2_with fail
      refine cB.mono ?_
      rintro e w4 ⟨rfl, hr4, hs4⟩
      have cC := quotedS_any (L + 1) r2 w4 hr4 (Nat.le_trans b2 (by decide))
      unfold QuotedSPost at cC
      rw [HCC.out] at cC
      simp only [HHH.out] at cC
      have HS4 := Lib.hid hs4
      clear hr4 hs4 cB
      go_wp2_with fail
      refine cC.mono ?_
      rintro e w5 ⟨rfl, hr5, hs5⟩
      have cD := quotedS_any (L + 1) r3 w5 hr5 (Nat.le_trans b3 (by decide))
      unfold QuotedSPost at cD
      rw [HCD.out] at cD
      simp only [HGG.out] at cD
      have HS5 := Lib.hid hs5
      clear hr5 hs5 cC
      go_wp2_with fail
      refine cD.mono ?_
      rintro e w6 ⟨rfl, hr6, hs6⟩
      have hs46 : Spares (only (L + 1)) wr w6 := (HS4.out.trans HS5.out).trans hs6
      have hl6 := HL0.out.move hs46 HNE.out
      have HL6 := Lib.hid hl6
      have HR6 := Lib.hid hr6
      have HZ6 := Lib.hid (HZ.out.move hs46 HNER.out)
      have HS6 := Lib.hid (HS.out.trans' hs46 HMORE.out)
      have d2 : w6.cell? ⟨L, 2, none⟩ = some (.string ⟨#[]⟩) := by rw [Lib.cell_of_heap hl6]; rfl
      have d3 : w6.cell? ⟨L, 3, none⟩ = some (.string ⟨#[]⟩) := by rw [Lib.cell_of_heap hl6]; rfl
      have d4 : w6.cell? ⟨L, 4, none⟩ = some (.string ⟨#[]⟩) := by rw [Lib.cell_of_heap hl6]; rfl
      have g2 : w6.frozen? ⟨L, 2, none⟩ = false := heap_frozen hl6 2
      have g3 : w6.frozen? ⟨L, 3, none⟩ = false := heap_frozen hl6 3
      have g4 : w6.frozen? ⟨L, 4, none⟩ = false := heap_frozen hl6 4
      obtain ⟨w7, hw7⟩ : ∃ w7, ((w6.setCell ⟨L, 2, none⟩ (.string M)).setCell ⟨L, 3, none⟩ (.string Hh)).setCell ⟨L, 4, none⟩ (.string G) = w7 := ⟨_, rfl⟩
      have hs7 : Spares (only L) w6 w7 := by rw [← hw7]; exact spares_set (spares_set (spares_set (Spares.refl _ _) 2 _) 3 _) 4 _
      have hl7 : LAt w7 L (lineV t (howF wd) M Hh G 0 0) := by rw [← hw7]; exact heap_set (heap_set (heap_set hl6 2 _) 3 _) 4 _
      have hr7 := hr6.move hs7 (by unfold only; omega)
      have hS7 : Spares nowhere w w7 := HS6.out.trans' hs7 (fun b hb => .inr (by unfold only at hb; omega))
      have cE := numberS_any (L + 1) r4 w7 hr7 (TM.out.spares hS7 (fun h => h)) HQ1.out (T1.out.spares hS7 (fun h => h)) HQ2.out (Nat.le_trans b4 (by decide))
      unfold NumberPost at cE
      rw [HCE.out] at cE
      have HL7 := Lib.hid hl7
      have HW7 := Lib.hid hw7
      have HS7 := Lib.hid hS7
      have HZ7 := Lib.hid (HZ6.out.move hs7 (by unfold only; omega))
      clear hs46 hl6 hr6 hs6 hs7 hl7 hr7 hS7 hw7 cD
      go_wp2_with fail
      change Calls _ _ _ (((w6.setCell ⟨L, 2, none⟩ (.string M)).setCell ⟨L, 3, none⟩ (.string Hh)).setCell ⟨L, 4, none⟩ (.string G)) _
      rw [HW7.out]
      refine cE.mono ?_
      rintro e w8 ⟨rfl, hr8, hs8⟩
      have hS8 : Spares nowhere w w8 := HS7.out.trans' hs8 HMORE.out
      have cF := numberS_any (L + 1) r5 w8 hr8 (TM.out.spares hS8 (fun h => h)) HQ1.out (T1.out.spares hS8 (fun h => h)) HQ2.out (Nat.le_trans b5 (by decide))
      unfold NumberPost at cF
      rw [HCF.out] at cF
      have HS8 := Lib.hid hS8
      have HL8 := Lib.hid (HL7.out.move hs8 HNE.out)
      have HZ8 := Lib.hid (HZ7.out.move hs8 HNER.out)
      clear hr8 hs8 hS8 cE d2 d3 d4 g2 g3 g4
      go_wp2_with fail
      refine cF.mono ?_
      rintro e w9 ⟨rfl, hr9, hs9⟩
      have hl9 := HL8.out.move hs9 HNE.out
      have d5 : w9.cell? ⟨L, 5, none⟩ = some (.int .i64 0) := by rw [Lib.cell_of_heap hl9]; rfl
      have d6 : w9.cell? ⟨L, 6, none⟩ = some (.int .i64 0) := by rw [Lib.cell_of_heap hl9]; rfl
      have g5 : w9.frozen? ⟨L, 5, none⟩ = false := heap_frozen hl9 5
      have g6 : w9.frozen? ⟨L, 6, none⟩ = false := heap_frozen hl9 6
      obtain ⟨w10, hw10⟩ : ∃ w10, (w9.setCell ⟨L, 5, none⟩ (.int .i64 (x : Int))).setCell ⟨L, 6, none⟩ (.int .i64 (y : Int)) = w10 := ⟨_, rfl⟩
      have hs10 : Spares (only L) w9 w10 := by rw [← hw10]; exact spares_set (spares_set (Spares.refl _ _) 5 _) 6 _
      have hl10 : LAt w10 L (lineV t (howF wd) M Hh G x y) := by rw [← hw10]; exact heap_set (heap_set hl9 5 _) 6 _
      have hr10 := hr9.move hs10 (by unfold only; omega)
      have HS10 : Hid (Spares nowhere w w10) := Lib.hid ((HS8.out.trans' hs9 HMORE.out).trans' hs10 (fun b hb => .inr (by unfold only at hb; omega)))
      have HR10 : Hid (LAt w10 w.heap.size (cellsV zeroL).toArray) := Lib.hid ((HZ8.out.move hs9 HNER.out).move hs10 (by unfold only; omega))
      have HW10 := Lib.hid hw10
      have HL10 := Lib.hid hl10
      have HTR : Hid (w10.there w.heap.size 0 7) := Lib.hid (there_of HR10.out _ _ (by decide))
      have HI : Hid ((Tryz.prog.info? 23).map (·.size) = some 7) := Lib.hid (by kernel_rfl)
      obtain ⟨S6, hS6⟩ : ∃ S6, arrS r6.rest = S6 := ⟨_, rfl⟩
      obtain ⟨fn, hfn⟩ : ∃ fn, r6.fine = fn := ⟨_, rfl⟩
      have p0 : w10.cell? ⟨L + 1, 0, none⟩ = some (.string S6) := by rw [Lib.cell_of_heap hr10, ← hS6]; rfl
      have p1 : w10.cell? ⟨L + 1, 1, none⟩ = some (.bool fn) := by rw [Lib.cell_of_heap hr10, ← hfn]; rfl
      have n0 : w10.cell? ⟨L, 0, none⟩ = some (.int .i64 t) := by rw [Lib.cell_of_heap hl10]; rfl
      have n1 : w10.cell? ⟨L, 1, none⟩ = some (.int .i64 (howF wd)) := by rw [Lib.cell_of_heap hl10]; rfl
      have n2 : w10.cell? ⟨L, 2, none⟩ = some (.string M) := by rw [Lib.cell_of_heap hl10]; rfl
      have n3 : w10.cell? ⟨L, 3, none⟩ = some (.string Hh) := by rw [Lib.cell_of_heap hl10]; rfl
      have n4 : w10.cell? ⟨L, 4, none⟩ = some (.string G) := by rw [Lib.cell_of_heap hl10]; rfl
      have n5 : w10.cell? ⟨L, 5, none⟩ = some (.int .i64 (x : Int)) := by rw [Lib.cell_of_heap hl10]; rfl
      have n6 : w10.cell? ⟨L, 6, none⟩ = some (.int .i64 (y : Int)) := by rw [Lib.cell_of_heap hl10]; rfl
      have hV := HV.out
      rw [hfn] at hV
      have HSS6 := Lib.hid hS6
      obtain ⟨hw, hhw⟩ : ∃ hw, howF wd = hw := ⟨_, rfl⟩
      rw [hhw] at hV n1
      have HHW := Lib.hid hhw
      have HV9 := Lib.hid hV
      clear hl9 hr9 hs9 hs10 hl10 hr10 hw10 hV hS6 hfn hhw cF
      go_upto_region 17 with (fail)
      change Code.wp _ _ _ _ ((w9.setCell ⟨L, 5, none⟩ (.int .i64 (x : Int))).setCell ⟨L, 6, none⟩ (.int .i64 (y : Int)))
      rw [HW10.out]
      clear d5 d6 g5 g6
      cases fn with
      | false =>
        have HN : Hid (lineF s.data.toList = none) := Lib.hid (by rw [HV9.out, if_neg (by simp)])
        go_wp2_with ((with_reducible show wpList _ _ _ (⟨none, .store 23 _ _, _, _, _, _⟩ :: _) _ _); refine wpList_store_mid rfl 23 (.tmp 2) (.tmp 69) rfl w.heap.size 0 (cellsV zeroL).toArray rfl rfl HTR.out HI.out (all_oneCell_toArray (cellsV_one _)) ?_)
        exact bodyPost_ret (v := lineR none) (results_cell_two rfl _ _ w.heap.size 23 (cellsV zeroL).toArray (0, 0) _ (.int .i64 123) rfl rfl (heap_setCells (cellsV zeroL) [] (cellsV zeroL) [] w10 HR10.out rfl) Tryz.underlying23 (by rfl) HI.out) rfl ⟨by rw [HN.out], (HS10.out.trans' (F' := fun b => b = w.heap.size) (spares_setCells _ _ _ (Spares.refl _ _)) (fun b hb => .inr (by omega))).below0⟩
      | true =>
        by_cases hneg : hw < 0
        · have HN : Hid (lineF s.data.toList = none) := Lib.hid (by rw [HV9.out, if_neg (by omega)])
          go_wp2_with ((with_reducible show wpList _ _ _ (⟨none, .store 23 _ _, _, _, _, _⟩ :: _) _ _); refine wpList_store_mid rfl 23 (.tmp 2) (.tmp 69) rfl w.heap.size 0 (cellsV zeroL).toArray rfl rfl HTR.out HI.out (all_oneCell_toArray (cellsV_one _)) ?_)
          exact bodyPost_ret (v := lineR none) (results_cell_two rfl _ _ w.heap.size 23 (cellsV zeroL).toArray (0, 0) _ (.int .i64 123) rfl rfl (heap_setCells (cellsV zeroL) [] (cellsV zeroL) [] w10 HR10.out rfl) Tryz.underlying23 (by rfl) HI.out) rfl ⟨by rw [HN.out], (HS10.out.trans' (F' := fun b => b = w.heap.size) (spares_setCells _ _ _ (Spares.refl _ _)) (fun b hb => .inr (by omega))).below0⟩
        · by_cases hS : r6.rest = []
          · have HN : Hid (lineF s.data.toList = some ⟨t, hw, m, hh, tg, x, y⟩) := Lib.hid (by rw [HV9.out, if_pos ⟨rfl, by omega, hS⟩])
            have ze : (!S6.toList.isEmpty) = false := by rw [← HSS6.out, Lib.toList_data, arrS_list, hS]; rfl
            have n1' : w10.cell? ⟨L, 1, none⟩ = some (.int .i64 hw) := n1
            clear hS
            go_wp2_with ((with_reducible show wpList _ _ _ (⟨none, .store 23 _ _, _, _, _, _⟩ :: _) _ _); refine wpList_store_mid rfl 23 (.tmp 2) (.tmp 70) rfl w.heap.size 0 (lineV t hw M Hh G x y) rfl rfl HTR.out HI.out (by simp [lineV, Value.oneCell']) ?_)
            exact bodyPost_ret (v := .tuple #[.agg (lineV t hw M Hh G x y), .int .i64 0]) (results_cell_two rfl _ _ w.heap.size 23 (lineV t hw M Hh G x y) (0, 0) _ (.int .i64 0) rfl rfl (heap_setCells (lineV t hw M Hh G x y).toList [] (cellsV zeroL) [] w10 HR10.out rfl) Tryz.underlying23 (by rfl) HI.out) rfl ⟨by rw [HN.out, ← HMM.out, ← HHH.out, ← HGG.out]; rfl, (HS10.out.trans' (F' := fun b => b = w.heap.size) (spares_setCells _ _ _ (Spares.refl _ _)) (fun b hb => .inr (by omega))).below0⟩
          · have HN : Hid (lineF s.data.toList = none) := Lib.hid (by rw [HV9.out, if_neg (fun h => hS h.2.2)])
            have ze : (!S6.toList.isEmpty) = true := by
              rw [← HSS6.out, Lib.toList_data, arrS_list]
              cases hq : r6.rest with
              | nil => exact absurd hq hS
              | cons c l => rfl
            clear hS
            go_wp2_with ((with_reducible show wpList _ _ _ (⟨none, .store 23 _ _, _, _, _, _⟩ :: _) _ _); refine wpList_store_mid rfl 23 (.tmp 2) (.tmp 69) rfl w.heap.size 0 (cellsV zeroL).toArray rfl rfl HTR.out HI.out (all_oneCell_toArray (cellsV_one _)) ?_)
            exact bodyPost_ret (v := lineR none) (results_cell_two rfl _ _ w.heap.size 23 (cellsV zeroL).toArray (0, 0) _ (.int .i64 123) rfl rfl (heap_setCells (cellsV zeroL) [] (cellsV zeroL) [] w10 HR10.out rfl) Tryz.underlying23 (by rfl) HI.out) rfl ⟨by rw [HN.out], (HS10.out.trans' (F' := fun b => b = w.heap.size) (spares_setCells _ _ _ (Spares.refl _ _)) (fun b hb => .inr (by omega))).below0⟩
end Go.Proofs.YtkbcklaloblmeaaGreatDoor
namespace Go.Proofs.YtkbcklaloblmeaaGreatDoor
open Go.RowKit LineMath ChunkS NormS DateMath

theorem lparse_any (s : ByteArray) (w : World) (h1 : TabP w) (h2 : TabS w) (hm : MaxL w) (hsz : s.size ≤ 100000000) : Calls Tryz.prog 11 #[.string s] w (ParseLPost s.data.toList w) := by
  by_cases h : s.size < 29
  · exact lparse_short s w h
  · by_cases hr : (readF (s.data.toList.take 29)).2 = 0
    · exact lparse_good s w (readF (s.data.toList.take 29)).1 (by omega) (by rw [← hr]) h1 h2 hm hsz
    · exact lparse_bad s w (by omega) hr h1 h2 hsz
def Tabs4 (w : World) : Prop := (TabP w ∧ TabS w) ∧ TabZ w ∧ MaxL w
theorem Tabs4.spares {w w' : World} (h : Tabs4 w) (hs : Spares nowhere w w') : Tabs4 w' := ⟨⟨h.1.1.spares hs (fun h => h), h.1.2.spares hs (fun h => h)⟩, h.2.1.spares hs, h.2.2.spares hs (fun h => h)⟩
theorem rowL_cells {B : Nat} {w : World} {v : Value} {L : List LineV} (h : RowL B w v L) (hL : 0 < L.length) : ∃ g cap, v = .slice (some ⟨g, 0, none⟩) L.length cap ∧ ∀ j u, (rowV L)[j]? = some u → w.cell? ⟨g, j, none⟩ = some u := by
  rcases h.2 with ⟨_, h0⟩ | ⟨g, cap, cur, hv, _, hg, _, _, _, ht⟩
  · omega
  · refine ⟨g, cap, hv, fun j u hj => ?_⟩
    rw [Lib.cell_of_heap hg]
    have hj2 := hj
    rw [← ht, List.getElem?_take] at hj2
    split at hj2
    · rw [← hj2]; simp
    · cases hj2
def exL0 : LineV := ⟨0, 0, [71, 69, 84], [104], [47], 200, 5⟩
def exT0 : ByteArray := ⟨#[84, 104, 117, 44, 32, 48, 49, 32, 74, 97, 110, 32, 49, 57, 55, 48, 32, 48, 48, 58, 48, 48, 58, 48, 48, 32, 71, 77, 84, 32, 104, 105, 116, 32, 34, 71, 69, 84, 34, 32, 34, 104, 34, 32, 34, 47, 34, 32, 50, 48, 48, 32, 53]⟩
theorem nat_200 : natT 200 = [50, 48, 48] := by
  show Lib.decDigits 200 = _
  rw [Lib.decDigits, dif_neg (by decide), Lib.decDigits, dif_neg (by decide), Lib.decDigits_one (by decide)]
  rfl
theorem nat_5 : natT 5 = [53] := by
  show Lib.decDigits 5 = _
  rw [Lib.decDigits_one (by decide)]
  rfl
theorem time_0 : timeT 0 = [84, 104, 117, 44, 32, 48, 49, 32, 74, 97, 110, 32, 49, 57, 55, 48, 32, 48, 48, 58, 48, 48, 58, 48, 48, 32, 71, 77, 84] := by decide +kernel
theorem ex_line : arrS (lineT exL0) = exT0 := by
  unfold lineT
  rw [show natT exL0.status = [50, 48, 48] from nat_200, show natT exL0.size = [53] from nat_5, show timeT exL0.time = _ from time_0]
  rfl
def mkL (m : List UInt8) (i : Nat) : LineV := ⟨0, 0, m, [], [], 0, i⟩
def allL (m : List UInt8) (k : Nat) : List LineV := (List.range k).map (mkL m)
theorem all_succ (m : List UInt8) (k : Nat) : allL m (k + 1) = allL m k ++ [mkL m k] := by unfold allL; rw [List.range_succ, List.map_append]; rfl
theorem all_len (m : List UInt8) (k : Nat) : (allL m k).length = k := by unfold allL; simp
theorem all_at (m : List UInt8) (k j : Nat) (h : j < k) : (allL m k)[j]? = some (mkL m j) := by unfold allL; simp [h]
/-- A log of the call's own, and what was added to it. -/
def LogOf (B : Nat) (w : World) (p M : Nat) (all : List LineV) : Prop := ∃ R next n, LogAt B w p R next n ∧ Rings all R next n ∧ R.length = M
theorem LogOf.new {w w' : World} {p M : Nat} (h : LogAt w.heap.size w' p (List.replicate M zeroL) 0 0) : LogOf w.heap.size w' p M [] := ⟨_, _, _, h, Rings.start M zeroL, by simp⟩
def Knows (w : World) (e : Ending) (w' : World) : Prop := e = .returned (.bool true) ∧ Spares nowhere w w'
set_option maxRecDepth 100000 in
set_option maxHeartbeats 2000000 in
theorem known_any (w : World) (hT : Tabs4 w) : Calls Tryz.prog 7 #[] w (Knows w) := by
  have cT : ∀ x : World, Spares nowhere w x → Calls Tryz.prog 9 #[.agg (cellsV exL0).toArray] x fun e w' => e = .returned (.string exT0) ∧ Below x.heap.size x w' := fun x hx => by
    have ht := hT.spares hx
    have c := lText_any exL0 x ⟨by decide, by decide, by decide, by decide, by decide, by decide⟩ ht.1.1 ht.1.2 ht.2.1
    unfold LTextPost at c
    rw [ex_line] at c
    exact c
  have cP : ∀ x : World, Spares nowhere w x → Calls Tryz.prog 11 #[.string exT0] x fun e w' => e = .returned (.tuple #[.agg #[.int .i64 0, .int .i64 0, .string ⟨#[71, 69, 84]⟩, .string ⟨#[104]⟩, .string ⟨#[47]⟩, .int .i64 200, .int .i64 5], .int .i64 0]) ∧ Below x.heap.size x w' := fun x hx => by
    have ht := hT.spares hx
    have c := lparse_any exT0 x ht.1.1 ht.1.2 ht.2.2 (by decide)
    unfold ParseLPost at c
    rw [← ex_line, arrS_list, line_back exL0 (by decide) (by decide) (by decide) (by decide) (by decide) (by decide) (by decide) (by decide)] at c
    rw [← ex_line]
    exact c
  have cX : ∀ x : World, Spares nowhere w x → Calls Tryz.prog 11 #[.string ⟨#[120]⟩] x fun e w' => e = .returned (.tuple #[.agg #[.int .i64 0, .int .i64 0, .string ⟨#[]⟩, .string ⟨#[]⟩, .string ⟨#[]⟩, .int .i64 0, .int .i64 0], .int .i64 123]) ∧ Below x.heap.size x w' := fun x hx => by
    have ht := hT.spares hx
    have c := lparse_any ⟨#[120]⟩ x ht.1.1 ht.1.2 ht.2.2 (by decide)
    unfold ParseLPost at c
    have e : lineF (⟨#[120]⟩ : ByteArray).data.toList = none := by unfold lineF; rw [if_pos (by decide)]
    rw [e] at c
    exact c
  have cN := fun x => new_any 2 2 (by decide) x
  have CT := Lib.hid cT
  have CP := Lib.hid cP
  have CX := Lib.hid cX
  clear cT cP cX hT
  unfold Knows
  unfold exT0 at CT CP
  go_enter Tryz.func7, Tryz.ntmps7
  go_wp2_with fail
  refine (CT.out _ (Spares.refl _ _)).mono ?_
  rintro e w1 ⟨rfl, hb1⟩
  have hs1 : Spares nowhere w w1 := Below.spares hb1 (fun _ hk => .inr hk)
  have HS1 := Lib.hid hs1
  clear hs1 hb1
  go_wp2_with fail
  refine (CP.out _ HS1.out).mono ?_
  rintro e w2 ⟨rfl, hb2⟩
  have HS2 : Hid (Spares nowhere w w2) := Lib.hid (HS1.out.trans (Below.spares hb2 (fun _ hk => .inr hk)))
  clear hb2
  have hs3 : Spares nowhere w (w2.alloc (.cells (cellsV exL0).toArray 23)) := HS2.out.alloc _
  have HS3 := Lib.hid hs3
  clear hs3
  go_wp2_with fail
  refine (CX.out _ HS3.out).mono ?_
  rintro e w4 ⟨rfl, hb4⟩
  have hx2 : w4.heap[w2.heap.size]? = some (.cells (cellsV exL0).toArray 23 (0, 0)) := (hb4.block w2.heap.size (by simp)).trans (heap_alloc_new w2 _)
  have hz4 : w2.heap.size < w4.heap.size := by have := hb4.size; simp at this; omega
  have HX2 := Lib.hid hx2
  have HS4 : Hid (Spares nowhere w w4) := Lib.hid (HS3.out.trans (Below.spares hb4 (fun _ hk => .inr hk)))
  have hs5 : Spares nowhere w4 (w4.alloc (.cells (cellsV zeroL).toArray 23)) := (Spares.refl _ _).alloc _
  have HS5 := Lib.hid hs5
  clear hx2 hb4 hs5
  go_wp2_with fail
  refine (cN (w4.alloc (.cells (cellsV zeroL).toArray 23))).mono ?_
  rintro e w6 ⟨p, rfl, hl6, hs6⟩
  have hx6 : w6.heap[w2.heap.size]? = some (.cells (cellsV exL0).toArray 23 (0, 0)) := (HS5.out.trans hs6).heap HX2.out (fun h => h)
  have HX6 := Lib.hid hx6
  have HS6 : Hid (Spares nowhere w w6) := Lib.hid (HS4.out.trans (HS5.out.trans hs6))
  obtain ⟨B, hB⟩ : ∃ B, (w4.alloc (.cells (cellsV zeroL).toArray 23)).heap.size = B := ⟨_, rfl⟩
  have hBz : w.heap.size ≤ B ∧ w2.heap.size < B := by rw [← hB]; have := HS4.out.size; simp; omega
  rw [hB] at hl6
  have HL6 : Hid (LogOf B w6 p 2 (allL [] 0)) := Lib.hid ⟨_, _, _, hl6, Rings.start 2 zeroL, rfl⟩
  have HBZ := Lib.hid hBz
  clear hx6 hl6 hs6 hB hBz cN
  go_wp2
  go_loopw [7] (fun i wr => ∃ k : Nat, k ≤ 3 ∧ i = .int .i64 k ∧ Hid (LogOf B wr p 2 (allL [] k)) ∧ Hid (Spares nowhere w wr) ∧ Hid (wr.heap[w2.heap.size]? = some (.cells (cellsV exL0).toArray 23 (0, 0)))) (fun i _ => 3 - (intOf i).toNat)
  case atStart => exact ⟨0, by omega, rfl, HL6, HS6, HX6⟩
  case round =>
    obtain ⟨k, hk, rfl, HL, HS, HX⟩ := hrel
    by_cases hlt : k < 3
    · obtain ⟨R, next, n, hla, hrg, hRl⟩ := HL.out
      have h0 : 0 < R.length := by omega
      have cA := add_any B p R next n (mkL [] k) wr hla h0 (by omega) (hrg.next_lt h0) (by have := hrg.num; omega)
      have HRG := Lib.hid (hrg.add h0 (mkL [] k))
      have HRL : Hid ((R.set next (mkL [] k)).length = 2) := Lib.hid (by rw [List.length_set]; exact hRl)
      unfold AddPost at cA
      clear hla hrg hRl h0
      go_wp2_with fail
      refine cA.mono ?_
      rintro e w7 ⟨rfl, hla7, hs7⟩
      go_wp2
      go_roundw
      case rel =>
        refine ⟨k + 1, by omega, by go_num, Lib.hid ⟨_, _, _, hla7, by rw [all_succ]; exact HRG.out, HRL.out⟩, Lib.hid (HS.out.trans' hs7 (fun b hb => .inr (Nat.le_trans HBZ.out.1 hb))), Lib.hid (hs7.heap HX.out (fun h => Nat.not_lt.2 h HBZ.out.2))⟩
      case measure => simp [intOf]; omega
    · obtain rfl : k = 3 := by omega
      obtain ⟨R, next, n, hla, hrg, hRl⟩ := HL.out
      have hn : n = 2 := by have := hrg.num; rw [all_len, hRl] at this; omega
      subst hn
      have hle : lastsL R next 2 = [mkL [] 1, mkL [] 2] := by rw [hrg.lasts 2 (Nat.le_refl _)]; rfl
      have cL := last_any B p R next 2 2 9 wr hla (by decide) (by omega) (by have := hrg.next_lt (by omega); omega) hrg.next_lt (by omega)
      unfold LastPost at cL
      rw [hle] at cL
      have HLA := Lib.hid hla
      clear hla hrg hRl hle
      go_wp2_with fail
      refine cL.mono ?_
      rintro e w7 ⟨v, rfl, hrow, hs7⟩
      obtain ⟨g, cap, rfl, hcell⟩ := rowL_cells hrow (by decide)
      have q6 : w7.cell? ⟨g, 6, none⟩ = some (.int .i64 1) := hcell 6 _ rfl
      obtain ⟨q, hq, l1, l2, l3⟩ := HLA.out
      have cN := len_any B p R next 2 w7 ⟨q, hq, hs7.heap l1 (fun h => h), hs7.heap l2 (fun h => h), l3⟩
      have hx7 := hs7.heap HX.out (fun h => h)
      have x2 : w7.cell? ⟨w2.heap.size, 2, none⟩ = some (.string ⟨#[71, 69, 84]⟩) := by rw [Lib.cell_of_heap hx7]; rfl
      have x6 : w7.cell? ⟨w2.heap.size, 6, none⟩ = some (.int .i64 5) := by rw [Lib.cell_of_heap hx7]; rfl
      have HSE : Hid (Spares nowhere w w7) := Lib.hid (HS.out.trans hs7)
      clear hrow hs7 hcell l1 l2 l3 hx7 cL hq
      go_wp2_with fail
      refine cN.mono ?_
      rintro e w8 ⟨rfl, hw8⟩
      subst hw8
      go_wp2
      go_ret
      exact ⟨rfl, HSE.out⟩
end Go.Proofs.YtkbcklaloblmeaaGreatDoor
namespace Go.Proofs.YtkbcklaloblmeaaGreatDoor
open Go.RowKit LineMath ChunkS NormS DateMath

theorem unqV_pair (l : List UInt8) : ∃ (u : ByteArray) (b : Bool), unqV l = .tuple #[.string u, .bool b] := by
  unfold unqV
  cases unquoteF l with
  | none => exact ⟨_, _, rfl⟩
  | some v => exact ⟨_, _, rfl⟩
set_option maxRecDepth 100000 in
set_option maxHeartbeats 2000000 in
theorem quotes_any (s t : ByteArray) (w : World) (hT : Tabs4 w) : Calls Tryz.prog 5 #[.string s, .string t] w (Knows w) := by
  have HK := Lib.hid (known_any w hT)
  have HT := Lib.hid hT
  clear hT
  unfold Knows at HK ⊢
  by_cases h1 : s.size ≤ 300
  · have l1 : ¬ ((300 : Int) < (s.size : Int)) := by omega
    have l1n : decide (300 < s.size) = false := by simp; omega
    by_cases h2 : t.size ≤ 300
    · have l2 : ¬ ((300 : Int) < (t.size : Int)) := by omega
      have l2n : decide (300 < t.size) = false := by simp; omega
      have cQ := fun x (hx : Spares nowhere w x) => quote_any s x (by omega) (HT.out.spares hx).2.1
      have cR := fun x => refQuote_any s x (by omega)
      have cU := fun x => unquote_any t x (by omega)
      have cV := fun x => refUnquote_any t x (by omega)
      obtain ⟨Q, hQ⟩ : ∃ Q, (⟨(quoteT s.data.toList).toArray⟩ : ByteArray) = Q := ⟨_, rfl⟩
      have hQl : Q.data.toList = quoteT s.data.toList := by rw [← hQ]
      have hQz : Q.size ≤ 1202 := by
        rw [← size_list Q, hQl]
        have := quoteT_le s.data.toList
        rw [size_list] at this
        omega
      have cW := fun x => unquote_any Q x (by omega)
      unfold UnqPost at cU cV cW
      obtain ⟨u, b, hu⟩ := unqV_pair t.data.toList
      have hw : unqV Q.data.toList = .tuple #[.string s, .bool true] := by
        unfold unqV; rw [hQl, unquote_quote]
        simp only [arrS_of]
      have hby : ∀ (i : Nat) (h : i < Q.size), 32 ≤ (Q[i]).toNat ∧ (Q[i]).toNat ≤ 126 := fun i h => by
        have hm : Q[i] ∈ quoteT s.data.toList := by
          rw [← hQl, ← list_at Q i h]
          exact List.getElem_mem _
        exact quote_prints _ _ hm
      have HBY := Lib.hid hby
      rw [hu] at cU cV
      rw [hw] at cW
      simp only [hQ] at cQ cR
      clear hQ hQl hu hw hby HT h1 h2
      go_enter Tryz.func5, Tryz.ntmps5
      go_wp2_with fail
      refine HK.out.mono ?_
      rintro e w1 ⟨rfl, hs1⟩
      have HS1 := Lib.hid hs1
      clear hs1 HK
      go_wp2_with fail
      refine (cQ _ HS1.out).mono ?_
      rintro e w2 ⟨rfl, hb⟩
      have HS2 : Hid (Spares nowhere w w2) := Lib.hid (HS1.out.trans (Below.spares hb (fun _ hk => .inr hk)))
      clear hb cQ
      go_wp2_with fail
      refine (cW _).mono ?_
      rintro e w3 ⟨rfl, hb⟩
      have HS3 : Hid (Spares nowhere w w3) := Lib.hid (HS2.out.trans (Below.spares hb (fun _ hk => .inr hk)))
      clear hb cW
      go_wp2_with fail
      refine (cU _).mono ?_
      rintro e w4 ⟨rfl, hb⟩
      have HS4 : Hid (Spares nowhere w w4) := Lib.hid (HS3.out.trans (Below.spares hb (fun _ hk => .inr hk)))
      clear hb cU
      go_wp2_with fail
      refine (cV _).mono ?_
      rintro e w5 ⟨rfl, hb⟩
      have HS5 : Hid (Spares nowhere w w5) := Lib.hid (HS4.out.trans (Below.spares hb (fun _ hk => .inr hk)))
      clear hb cV
      go_wp2
      go_loop [12] (fun i => ∃ k : Nat, k ≤ Q.size ∧ i = .int .i64 k) (fun i => Q.size - (intOf i).toNat)
      case atStart => exact ⟨0, Nat.zero_le _, rfl⟩
      case round =>
        obtain ⟨k, hk, rfl⟩ := hrel
        by_cases hlt : k < Q.size
        · have hb := HBY.out k hlt
          have g1 : ¬ ((Q[k].toNat : Int) < 32) := by omega
          have g2 : ¬ ((126 : Int) < (Q[k].toNat : Int)) := by omega
          clear hb
          go_wp2
          go_round
          case rel => exact ⟨k + 1, by omega, by go_num⟩
          case measure => simp [intOf]; omega
        · go_wp2_with fail
          refine (cR _).mono ?_
          rintro e w6 ⟨rfl, hb⟩
          have HS6 : Hid (Spares nowhere w w6) := Lib.hid (HS5.out.trans (Below.spares hb (fun _ hk => .inr hk)))
          have hbb : (b == b) = true := by simp
          clear hb cR
          go_wp2
          go_ret
          exact ⟨by simp, HS6.out⟩
    · have l2 : ((300 : Int) < (t.size : Int)) := by omega
      go_enter Tryz.func5, Tryz.ntmps5
      go_wp2_with fail
      refine HK.out.mono ?_
      rintro e w1 ⟨rfl, hs1⟩
      have HS1 := Lib.hid hs1
      clear hs1 HK
      go_wp2
      go_ret
      exact ⟨rfl, HS1.out⟩
  · have l1 : ((300 : Int) < (s.size : Int)) := by omega
    go_enter Tryz.func5, Tryz.ntmps5
    go_wp2_with fail
    refine HK.out.mono ?_
    rintro e w1 ⟨rfl, hs1⟩
    have HS1 := Lib.hid hs1
    clear hs1 HK
    go_wp2
    go_ret
    exact ⟨rfl, HS1.out⟩
end Go.Proofs.YtkbcklaloblmeaaGreatDoor
namespace Go.Proofs.YtkbcklaloblmeaaGreatDoor
open Go.RowKit LineMath ChunkS NormS DateMath

theorem rowL_shape {B : Nat} {w : World} {v : Value} {L : List LineV} (h : RowL B w v L) : ∃ a c, v = .slice a L.length c ∧ (0 < L.length → ∃ g, a = some ⟨g, 0, none⟩ ∧ L.length ≤ c ∧ ∀ j u, (rowV L)[j]? = some u → w.cell? ⟨g, j, none⟩ = some u) := by
  by_cases h0 : 0 < L.length
  · obtain ⟨g, cap, hv, hc⟩ := rowL_cells h h0
    refine ⟨some ⟨g, 0, none⟩, cap, hv, fun _ => ⟨g, rfl, ?_, hc⟩⟩
    rcases h.2 with ⟨_, h1⟩ | ⟨g', cap', cur, hv', _, _, hle, _⟩
    · omega
    · rw [hv] at hv'
      injection hv' with _ _ e
      omega
  · rcases h.2 with ⟨hv, h1⟩ | ⟨g, cap, cur, hv, _⟩
    · exact ⟨none, 0, by rw [hv, h1], fun h => absurd h h0⟩
    · exact ⟨some ⟨g, 0, none⟩, cap, hv, fun h => absurd h h0⟩
set_option maxRecDepth 100000 in
set_option maxHeartbeats 4000000 in
theorem add_none (B p : Nat) (l : LineV) (w : World) (h : LogAt B w p [] 0 0) : Calls Tryz.prog 18 #[.pointer (some ⟨p, 0, none⟩), .agg (cellsV l).toArray] w (AddPost B p [] 0 0 w) := by
  obtain ⟨q, hq, g1, g2, h3⟩ := h
  have hs1 : Spares nowhere w (w.alloc (.cells #[.int .i64 l.time, .int .i64 l.how, .string ⟨l.method.toArray⟩, .string ⟨l.host.toArray⟩, .string ⟨l.target.toArray⟩, .int .i64 l.status, .int .i64 l.size] 23)) := (Spares.refl _ _).alloc _
  have h1 := hs1.heap g1 (fun h => h)
  have h2 := hs1.heap g2 (fun h => h)
  have a0 : (w.alloc (.cells #[.int .i64 l.time, .int .i64 l.how, .string ⟨l.method.toArray⟩, .string ⟨l.host.toArray⟩, .string ⟨l.target.toArray⟩, .int .i64 l.status, .int .i64 l.size] 23)).cell? ⟨p, 0, none⟩ = some (.slice (some ⟨q, 0, none⟩) 0 0) := by rw [Lib.cell_of_heap h1]; rfl
  have HF : Hid (LogAt B (w.alloc (.cells #[.int .i64 l.time, .int .i64 l.how, .string ⟨l.method.toArray⟩, .string ⟨l.host.toArray⟩, .string ⟨l.target.toArray⟩, .int .i64 l.status, .int .i64 l.size] 23)) p [] 0 0) := Lib.hid ⟨q, hq, h1, h2, h3⟩
  have HS := Lib.hid hs1
  clear g1 g2 h1 h2 h3 hs1 hq
  unfold AddPost cellsV
  go_enter Tryz.func18, Tryz.ntmps18
  go_wp2
  exact bodyPost_ret (v := .tuple #[]) (by simp [results, Tryz.results18, go_sem]) rfl ⟨rfl, HF.out, HS.out.mono (fun _ h => h.elim)⟩
/-- A log and what was added to it, whatever room it has. -/
def KeepAt (B : Nat) (w : World) (p M : Nat) (all : List LineV) : Prop := ∃ R next n, LogAt B w p R next n ∧ R.length = M ∧ n = min all.length M ∧ (0 < M → Rings all R next n) ∧ (M = 0 → next = 0)
theorem KeepAt.add {B p M : Nat} {w : World} {all : List LineV} (h : KeepAt B w p M all) (l : LineV) (hM : M ≤ 1000) : Calls Tryz.prog 18 #[.pointer (some ⟨p, 0, none⟩), .agg (cellsV l).toArray] w fun e w' => e = .returned (.tuple #[]) ∧ KeepAt B w' p M (all ++ [l]) ∧ Spares (atLeast B) w w' := by
  obtain ⟨R, next, n, hla, hR, hn, hrg, hx⟩ := h
  by_cases h0 : 0 < M
  · have hr := hrg h0
    refine (add_any B p R next n l w hla (by omega) (by omega) (hr.next_lt (by omega)) (by omega)).mono fun e w' ⟨he, hl, hs⟩ => ⟨he, ⟨_, _, _, hl, by rw [List.length_set]; exact hR, ?_, fun _ => hr.add (by omega) l, fun h => by omega⟩, hs⟩
    rw [List.length_append, List.length_singleton, hR]; omega
  · obtain rfl : M = 0 := by omega
    obtain rfl : R = [] := List.eq_nil_of_length_eq_zero hR
    obtain rfl : next = 0 := hx rfl
    obtain rfl : n = 0 := by omega
    exact (add_none B p l w hla).mono fun e w' ⟨he, hl, hs⟩ => ⟨he, ⟨_, _, _, hl, rfl, by simp, fun h => by omega, fun _ => rfl⟩, hs⟩
theorem KeepAt.last {B p M : Nat} {w : World} {all : List LineV} (h : KeepAt B w p M all) (hM : M ≤ 500) (last : Int) (m : Nat) (hm : (m : Int) = min (max last 0) ((min all.length M : Nat) : Int)) : Calls Tryz.prog 19 #[.pointer (some ⟨p, 0, none⟩), .int .i64 last] w (LastPost (all.drop (all.length - m)) w) := by
  obtain ⟨R, next, n, hla, hR, hn, hrg, hx⟩ := h
  rw [← hn] at hm
  by_cases h0 : 0 < M
  · have hr := hrg h0
    have c := last_any B p R next n m last w hla hm (by omega) (by have := hr.next_lt (by omega); omega) hr.next_lt (by omega)
    rwa [hr.lasts m (by omega)] at c
  · obtain rfl : M = 0 := by omega
    obtain rfl : R = [] := List.eq_nil_of_length_eq_zero hR
    obtain rfl : next = 0 := hx rfl
    obtain rfl : n = 0 := by omega
    obtain rfl : m = 0 := by omega
    have c := last_any B p [] 0 0 0 last w hla hm (by decide) (by decide) (by decide) (by decide)
    rw [Nat.sub_zero, List.drop_length]
    exact c
theorem KeepAt.len {B p M : Nat} {w : World} {all : List LineV} (h : KeepAt B w p M all) : Calls Tryz.prog 20 #[.pointer (some ⟨p, 0, none⟩)] w fun e w' => e = .returned (.int .i64 ((min all.length M : Nat) : Int)) ∧ w = w' := by
  obtain ⟨R, next, n, hla, hR, hn, hrg, hx⟩ := h
  rw [← hn]
  exact len_any B p R next n w hla
theorem KeepAt.move {B p M : Nat} {w w' : World} {all : List LineV} (h : KeepAt B w p M all) (hs : Spares nowhere w w') : KeepAt B w' p M all := by
  obtain ⟨R, next, n, ⟨q, hq, l1, l2, l3⟩, h2⟩ := h
  exact ⟨R, next, n, ⟨q, hq, hs.heap l1 (fun h => h), hs.heap l2 (fun h => h), l3⟩, h2⟩
set_option maxRecDepth 100000 in
set_option maxHeartbeats 2000000 in
theorem keeps_any (most last : Int) (N : Nat) (w : World) (hT : Tabs4 w) (hN : N < 65536) : Calls Tryz.prog 6 #[.int .i64 most, .int .u16 N, .int .i64 last] w (Knows w) := by
  have HK := Lib.hid (known_any w hT)
  clear hT
  unfold Knows at HK ⊢
  obtain ⟨M, hM⟩ : ∃ M : Nat, (M : Int) = min (max most 0) 200 := ⟨(min (max most 0) 200).toNat, by omega⟩
  have hM200 : M ≤ 200 := by omega
  have cN := fun x => new_any most M hM x
  have e1 : min (max most 0) 200 = (M : Int) := hM.symm
  obtain ⟨K, hK⟩ : ∃ K : Nat, N % 500 = K := ⟨_, rfl⟩
  have hKl : K < 500 := by omega
  have e2 : (N : Int).tmod 500 = (K : Int) := by rw [Int.tmod_eq_emod_of_nonneg (by omega)]; omega
  have e3 : (N : Int) % 500 = (K : Int) := by omega
  have HE2 := Lib.hid e2
  clear hM hK e2
  go_enter Tryz.func6, Tryz.ntmps6
  go_wp2_with fail
  refine HK.out.mono ?_
  rintro e w1 ⟨rfl, hs1⟩
  have HS1 := Lib.hid hs1
  clear hs1 HK
  go_wp2_with fail
  refine (cN w1).mono ?_
  rintro e w2 ⟨p, rfl, hl2, hs2⟩
  have HL2 : Hid (KeepAt w1.heap.size w2 p M (allL [109] 0)) := Lib.hid ⟨_, _, _, hl2, by simp, by simp [all_len], fun _ => Rings.start M zeroL, fun _ => rfl⟩
  have HS2 : Hid (Spares nowhere w w2) := Lib.hid (HS1.out.trans hs2)
  have HB : Hid (w.heap.size ≤ w1.heap.size) := Lib.hid HS1.out.size
  clear hl2 hs2 cN
  have LK := Lib.hid (all_len [109] K)
  go_upto_region 6 with (fail)
  clear e1 e3
  go_wp2
  go_loopw [10] (fun i wr => ∃ k : Nat, k ≤ K ∧ i = .int .i64 k ∧ Hid (KeepAt w1.heap.size wr p M (allL [109] k)) ∧ Hid (Spares nowhere w wr)) (fun i _ => K - (intOf i).toNat)
  case atStart => exact ⟨0, Nat.zero_le _, rfl, HL2, HS2⟩
  case round =>
    obtain ⟨k, hk, rfl, HL, HS⟩ := hrel
    by_cases hlt : k < K
    · have cA := HL.out.add (mkL [109] k) (by omega)
      go_wp2_with fail
      refine cA.mono ?_
      rintro e w3 ⟨rfl, hk3, hs3⟩
      go_wp2
      go_roundw
      case rel => exact ⟨k + 1, by omega, by go_num, Lib.hid (by rw [all_succ]; exact hk3), Lib.hid (HS.out.trans' hs3 (fun b hb => .inr (Nat.le_trans HB.out hb)))⟩
      case measure => simp [intOf]; omega
    · obtain rfl : k = K := by omega
      obtain ⟨n, hn⟩ : ∃ n : Nat, min k M = n := ⟨_, rfl⟩
      obtain ⟨m, hm⟩ : ∃ m : Nat, (m : Int) = min (max last 0) (n : Int) := ⟨(min (max last 0) (n : Int)).toNat, by omega⟩
      have cL := HL.out.last (by omega) last m (by rw [LK.out, hn]; exact hm)
      have e4 : ∀ ts t w, (Builtin.min_ ts t #[.int .i64 (max last 0), .int .i64 (M : Int), .int .i64 (k : Int)]).run Tryz.prog w = .ok (.int .i64 (m : Int)) w := fun ts t w => by
        rw [run_min_int3]
        congr 2
        split <;> split <;> omega
      have e5 : min (M : Int) (k : Int) = (n : Int) := by omega
      have cN := fun x (hx : Spares nowhere wr x) => (HL.out.move hx).len
      rw [LK.out, hn] at cN
      rw [LK.out] at cL
      have hmk : m ≤ k := by omega
      unfold LastPost at cL
      obtain ⟨LL, hLL⟩ : ∃ LL, (allL [109] k).drop (k - m) = LL := ⟨_, rfl⟩
      have hLn : LL.length = m := by rw [← hLL, List.length_drop, LK.out]; omega
      rw [hLL] at cL
      have HLL := Lib.hid hLL
      have HLN := Lib.hid hLn
      clear hn hm hLL hLn
      go_wp2_with fail
      refine cL.mono ?_
      rintro e w3 ⟨v, rfl, hrow, hs3⟩
      obtain ⟨a, c, rfl, hcells⟩ := rowL_shape hrow
      rw [HLN.out] at hcells ⊢
      have HC := Lib.hid hcells
      have HS3 := Lib.hid hs3
      clear hrow hcells hs3 cL
      have f1 : ((m : Int) != (m : Int)) = false := by simp
      have f2 : ((n : Int) != (n : Int)) = false := by simp
      go_wp2_with fail
      refine (cN w3 HS3.out).mono ?_
      rintro e w4 ⟨rfl, hw4⟩
      subst hw4
      have HSE : Hid (Spares nowhere w w3) := Lib.hid (HS.out.trans HS3.out)
      go_wp2
      go_loop [13] (fun i => ∃ j : Nat, j ≤ m ∧ i = .int .i64 j) (fun i => m - (intOf i).toNat)
      case atStart => exact ⟨0, Nat.zero_le _, rfl⟩
      case round =>
        obtain ⟨j, hj, rfl⟩ := hrel
        by_cases hjl : j < m
        · obtain ⟨g, rfl, hmc, hcl⟩ := HC.out (by omega)
          have hget : ∀ i, i < 7 → ∀ u, (cellsV (mkL [109] (k - m + j)))[i]? = some u → w3.cell? ⟨g, j * 7 + i, none⟩ = some u := fun i hi u hu => by
            refine hcl _ u ?_
            rw [Nat.mul_comm j 7, rowV_get LL j i (by rw [HLN.out]; exact hjl) hi]
            have : LL[j]? = some (mkL [109] (k - m + j)) := by rw [← HLL.out, List.getElem?_drop, all_at _ _ _ (by omega)]
            rw [List.getElem?_eq_getElem (by rw [HLN.out]; exact hjl)] at this
            rw [Option.some.inj this]
            exact hu
          have q6 : w3.cell? ⟨g, j * 7 + 6, none⟩ = some (.int .i64 ((k - m + j : Nat) : Int)) := hget 6 (by decide) _ rfl
          have q2 : w3.cell? ⟨g, j * 7 + 2, none⟩ = some (.string ⟨#[109]⟩) := hget 2 (by decide) _ rfl
          have e6 : (k : Int) - (m : Int) + (j : Int) = ((k - m + j : Nat) : Int) := by omega
          obtain ⟨z, hz⟩ : ∃ z : Nat, k - m + j = z := ⟨_, rfl⟩
          rw [hz] at q6 e6
          have f3 : ((z : Int) != (z : Int)) = false := by simp
          clear hget hcl hz
          go_wp2
          go_round
          case rel => exact ⟨j + 1, by omega, by go_num⟩
          case measure => simp [intOf]; omega
        · go_wp2
          go_ret
          exact ⟨rfl, HSE.out⟩
end Go.Proofs.YtkbcklaloblmeaaGreatDoor
namespace Go.Proofs.YtkbcklaloblmeaaGreatDoor
open Go.RowKit LineMath ChunkS NormS DateMath

def lightB (l : LineV) : Bool := decide (l.method.length ≤ 100) && decide (l.host.length ≤ 100) && decide (l.target.length ≤ 300)
set_option maxRecDepth 100000 in
set_option maxHeartbeats 2000000 in
theorem light_any (l : LineV) (w : World) : Calls Tryz.prog 8 #[.agg (cellsV l).toArray] w fun e w' => e = .returned (.bool (lightB l)) ∧ Below w.heap.size w w' := by
  have hb0 : Below w.heap.size w (w.alloc (.cells #[.int .i64 l.time, .int .i64 l.how, .string ⟨l.method.toArray⟩, .string ⟨l.host.toArray⟩, .string ⟨l.target.toArray⟩, .int .i64 l.status, .int .i64 l.size] 23)) := (Below.refl _ _).alloc (Nat.le_refl _) _
  have HB := Lib.hid hb0
  have s1 : (⟨l.method.toArray⟩ : ByteArray).size = l.method.length := arrS_size _
  have s2 : (⟨l.host.toArray⟩ : ByteArray).size = l.host.length := arrS_size _
  have s3 : (⟨l.target.toArray⟩ : ByteArray).size = l.target.length := arrS_size _
  have HS1 := Lib.hid s1
  have HS2 := Lib.hid s2
  have HS3 := Lib.hid s3
  clear hb0
  unfold cellsV
  by_cases h1 : l.method.length ≤ 100
  · by_cases h2 : l.host.length ≤ 100
    · by_cases h3 : l.target.length ≤ 300
      · have HV : Hid (lightB l = true) := Lib.hid (by unfold lightB; simp [h1, h2, h3])
        have g1 : ((⟨l.method.toArray⟩ : ByteArray).size : Int) ≤ 100 := by omega
        have g2 : ((⟨l.host.toArray⟩ : ByteArray).size : Int) ≤ 100 := by omega
        have g3 : ((⟨l.target.toArray⟩ : ByteArray).size : Int) ≤ 300 := by omega
        go_enter Tryz.func8, Tryz.ntmps8
        go_wp2
        go_ret
        exact ⟨by rw [HV.out]; simp; omega, HB.out⟩
      · have HV : Hid (lightB l = false) := Lib.hid (by unfold lightB; simp [h1, h2, h3])
        have g1 : ((⟨l.method.toArray⟩ : ByteArray).size : Int) ≤ 100 := by omega
        have g2 : ((⟨l.host.toArray⟩ : ByteArray).size : Int) ≤ 100 := by omega
        have g3 : ¬ ((⟨l.target.toArray⟩ : ByteArray).size : Int) ≤ 300 := by omega
        go_enter Tryz.func8, Tryz.ntmps8
        go_wp2
        go_ret
        exact ⟨by rw [HV.out]; simp; omega, HB.out⟩
    · have HV : Hid (lightB l = false) := Lib.hid (by unfold lightB; simp [h1, h2])
      have g1 : ((⟨l.method.toArray⟩ : ByteArray).size : Int) ≤ 100 := by omega
      have g2 : ¬ ((⟨l.host.toArray⟩ : ByteArray).size : Int) ≤ 100 := by omega
      go_enter Tryz.func8, Tryz.ntmps8
      go_wp2
      go_ret
      exact ⟨by rw [HV.out]; simp, HB.out⟩
  · have HV : Hid (lightB l = false) := Lib.hid (by unfold lightB; simp [h1])
    have g1 : ¬ ((⟨l.method.toArray⟩ : ByteArray).size : Int) ≤ 100 := by omega
    go_enter Tryz.func8, Tryz.ntmps8
    go_wp2
    go_ret
    exact ⟨by rw [HV.out]; simp, HB.out⟩
structure WideL (l : LineV) : Prop where
  how : l.how ≤ 9223372036854775807
  status : l.status ≤ 9223372036854775807
  size : l.size ≤ 9223372036854775807
theorem WideL.light {l : LineV} (h : WideL l) (hl : lightB l = true) : LightL l := by
  unfold lightB at hl
  simp at hl
  obtain ⟨⟨h1, h2⟩, h3⟩ := hl
  exact ⟨by omega, by omega, by omega, h.how, h.status, h.size⟩
set_option maxRecDepth 100000 in
set_option maxHeartbeats 2000000 in
theorem writes_any (l : LineV) (w : World) (hT : Tabs4 w) (hw : WideL l) : Calls Tryz.prog 3 #[.agg (cellsV l).toArray] w (Knows w) := by
  obtain ⟨w1, hw1⟩ : ∃ w1, w.alloc (.cells #[.int .i64 l.time, .int .i64 l.how, .string ⟨l.method.toArray⟩, .string ⟨l.host.toArray⟩, .string ⟨l.target.toArray⟩, .int .i64 l.status, .int .i64 l.size] 23) = w1 := ⟨_, rfl⟩
  have hs1 : Spares nowhere w w1 := by rw [← hw1]; exact (Spares.refl _ _).alloc _
  have hb : w1.heap[w.heap.size]? = some (.cells #[.int .i64 l.time, .int .i64 l.how, .string ⟨l.method.toArray⟩, .string ⟨l.host.toArray⟩, .string ⟨l.target.toArray⟩, .int .i64 l.status, .int .i64 l.size] 23 (0, 0)) := by rw [← hw1]; exact heap_alloc_new w _
  have HK := Lib.hid (known_any w1 (hT.spares hs1))
  have HT := Lib.hid hT
  have HB := Lib.hid hb
  have HS1 := Lib.hid hs1
  have HW1 := Lib.hid hw1
  have HWD := Lib.hid hw
  have cells : ∀ x, Spares nowhere w1 x → ((x.cell? ⟨w.heap.size, 0, none⟩ = some (.int .i64 l.time) ∧ x.cell? ⟨w.heap.size, 1, none⟩ = some (.int .i64 l.how)) ∧ (x.cell? ⟨w.heap.size, 2, none⟩ = some (.string ⟨l.method.toArray⟩) ∧ x.cell? ⟨w.heap.size, 3, none⟩ = some (.string ⟨l.host.toArray⟩)) ∧ x.cell? ⟨w.heap.size, 4, none⟩ = some (.string ⟨l.target.toArray⟩) ∧ x.cell? ⟨w.heap.size, 5, none⟩ = some (.int .i64 l.status) ∧ x.cell? ⟨w.heap.size, 6, none⟩ = some (.int .i64 l.size)) := fun x hx => by
    have h := hx.heap hb (fun h => h)
    exact ⟨⟨by rw [Lib.cell_of_heap h]; rfl, by rw [Lib.cell_of_heap h]; rfl⟩, ⟨by rw [Lib.cell_of_heap h]; rfl, by rw [Lib.cell_of_heap h]; rfl⟩, by rw [Lib.cell_of_heap h]; rfl, by rw [Lib.cell_of_heap h]; rfl, by rw [Lib.cell_of_heap h]; rfl⟩
  have HC := Lib.hid cells
  have cLi := fun x => light_any l x
  clear cells hb hs1 hw1 hT hw
  unfold Knows at HK ⊢
  unfold cellsV at cLi ⊢
  cases hli : lightB l with
  | false =>
    rw [hli] at cLi
    go_enter Tryz.func3, Tryz.ntmps3
    go_wp2_with fail
    rw [HW1.out]
    refine HK.out.mono ?_
    rintro e w2 ⟨rfl, hs2⟩
    obtain ⟨⟨c0, c1⟩, ⟨c2, c3⟩, c4, c5, c6⟩ := HC.out w2 hs2
    have HS2 := Lib.hid hs2
    clear hs2
    go_wp2_with fail
    refine (cLi _).mono ?_
    rintro e w3 ⟨rfl, hb3⟩
    have HS3 : Hid (Spares nowhere w w3) := Lib.hid ((HS1.out.trans HS2.out).trans (Below.spares hb3 (fun _ hk => .inr hk)))
    clear hb3
    go_wp2
    go_ret
    exact ⟨rfl, HS3.out⟩
  | true =>
    rw [hli] at cLi
    have HLL := Lib.hid (HWD.out.light hli)
    have cT := fun x (hx : Spares nowhere w x) => lText_any l x HLL.out (HT.out.spares hx).1.1 (HT.out.spares hx).1.2 (HT.out.spares hx).2.1
    have cR := fun x => lRefText_any l x HLL.out
    have HLEN := Lib.hid (lineT_le HLL.out)
    unfold LTextPost cellsV at cT cR
    obtain ⟨T, hTT⟩ : ∃ T, arrS (lineT l) = T := ⟨_, rfl⟩
    have HTT := Lib.hid hTT
    simp only [hTT] at cT cR
    clear hli hTT
    go_enter Tryz.func3, Tryz.ntmps3
    go_wp2_with fail
    rw [HW1.out]
    refine HK.out.mono ?_
    rintro e w2 ⟨rfl, hs2⟩
    obtain ⟨⟨c0, c1⟩, ⟨c2, c3⟩, c4, c5, c6⟩ := HC.out w2 hs2
    have HS2 := Lib.hid hs2
    clear hs2
    go_wp2_with fail
    refine (cLi _).mono ?_
    rintro e w3 ⟨rfl, hb3⟩
    have HS3 : Hid (Spares nowhere w1 w3) := Lib.hid (HS2.out.trans (Below.spares hb3 (fun _ hk => .inr hk)))
    clear hb3 c0 c1 c2 c3 c4 c5 c6 cLi
    obtain ⟨⟨c0, c1⟩, ⟨c2, c3⟩, c4, c5, c6⟩ := HC.out w3 HS3.out
    go_wp2_with fail
    refine (cT _ (HS1.out.trans HS3.out)).mono ?_
    rintro e w4 ⟨rfl, hb4⟩
    have HS4 : Hid (Spares nowhere w1 w4) := Lib.hid (HS3.out.trans (Below.spares hb4 (fun _ hk => .inr hk)))
    clear hb4 c0 c1 c2 c3 c4 c5 c6 cT
    obtain ⟨⟨c0, c1⟩, ⟨c2, c3⟩, c4, c5, c6⟩ := HC.out w4 HS4.out
    go_wp2_with fail
    refine (cR _).mono ?_
    rintro e w5 ⟨rfl, hb5⟩
    have HS5 : Hid (Spares nowhere w1 w5) := Lib.hid (HS4.out.trans (Below.spares hb5 (fun _ hk => .inr hk)))
    clear hb5 c0 c1 c2 c3 c4 c5 c6 cR
    obtain ⟨⟨c0, c1⟩, ⟨c2, c3⟩, c4, c5, c6⟩ := HC.out w5 HS5.out
    have HSE : Hid (Spares nowhere w w5) := Lib.hid (HS1.out.trans HS5.out)
    by_cases g1 : l.how < 0
    · go_wp2
      go_ret
      exact ⟨rfl, HSE.out⟩
    by_cases g2 : 6 ≤ l.how
    · go_wp2
      go_ret
      exact ⟨rfl, HSE.out⟩
    by_cases g3 : l.time < 0
    · go_wp2
      go_ret
      exact ⟨rfl, HSE.out⟩
    by_cases g4 : 253402300799 < l.time
    · go_wp2
      go_ret
      exact ⟨rfl, HSE.out⟩
    by_cases g5 : l.status < 0
    · go_wp2
      go_ret
      exact ⟨rfl, HSE.out⟩
    by_cases g6 : 999999999 < l.status
    · go_wp2
      go_ret
      exact ⟨rfl, HSE.out⟩
    by_cases g7 : l.size < 0
    · go_wp2
      go_ret
      exact ⟨rfl, HSE.out⟩
    by_cases g8 : 999999999 < l.size
    · go_wp2
      go_ret
      exact ⟨rfl, HSE.out⟩
    have cP := lparse_any T w5 (HT.out.spares HSE.out).1.1 (HT.out.spares HSE.out).1.2 (HT.out.spares HSE.out).2.2 (by rw [← HTT.out, arrS_size]; have := HLEN.out; omega)
    unfold ParseLPost at cP
    rw [← HTT.out, arrS_list, line_back l (by omega) (by omega) (by omega) (by omega) (by omega) (by omega) (by omega) (by omega)] at cP
    rw [HTT.out] at cP
    unfold lineR cellsV at cP
    simp only at cP
    go_wp2_with fail
    refine cP.mono ?_
    rintro e w6 ⟨rfl, hb6⟩
    have hs6 : Spares nowhere w1 w6 := HS5.out.trans (Below.spares hb6 (fun _ hk => .inr hk))
    have hs7 : Spares nowhere w1 (w6.alloc (.cells #[.int .i64 l.time, .int .i64 l.how, .string ⟨l.method.toArray⟩, .string ⟨l.host.toArray⟩, .string ⟨l.target.toArray⟩, .int .i64 l.status, .int .i64 l.size] 23)) := hs6.alloc _
    have HS7 := Lib.hid hs7
    clear c0 c1 c2 c3 c4 c5 c6 cP hb6
    obtain ⟨⟨c0, c1⟩, ⟨c2, c3⟩, c4, c5, c6⟩ := HC.out _ HS7.out
    clear hs6 hs7
    go_wp2
    go_ret
    exact ⟨rfl, HS1.out.trans HS7.out⟩
end Go.Proofs.YtkbcklaloblmeaaGreatDoor
