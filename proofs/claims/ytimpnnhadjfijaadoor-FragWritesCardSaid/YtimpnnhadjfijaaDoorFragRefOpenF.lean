/-
  The reference's OpenFrag.
-/
import Derived.Test.YtimpnnhadjfijaaDoorFragRefOpenE
import Derived.Test.YtimpnnhadjfijaaDoorShaRef
import Derived.Test.YtimpnnhadjfijaaDoorFragKeyEq
import Derived.Test.YtimpnnhadjfijaaDoorTakeTo
import Derived.Test.YtimpnnhadjfijaaDoorFragBuilt
namespace Go.Proofs.YtimpnnhadjfijaaDoor
open Go.RowKit CrcMath

theorem arr32r (a : Option Addr) (c : Nat) (w : World) : (Instr.arrayAt 22 (.slice a 32 c)).run Tryd.prog w = .ok (.pointer a) w := run_arrayAt w 22 _ 32 _ 32 c Tryd.underlying22 (by omega)
theorem arr32k (a : Option Addr) (c : Nat) (w : World) : (Instr.arrayAt 23 (.slice a 32 c)).run Tryd.prog w = .ok (.pointer a) w := run_arrayAt w 23 _ 32 _ 32 c Tryd.underlying23 (by omega)
theorem infoR32 : (Tryd.prog.info? 22).map (·.size) = some 32 := by kernel_rfl
theorem refCrc_at (l : List UInt8) (a : Option Addr) (n cap : Nat) (w : World) (hin : BytesAt w a l) (hn : n = l.length) (hle : l.length ≤ 140737488351232) :
    Calls Tryd.prog 29 #[.slice a n cap] w fun e w' => e = .returned (.int .u32 (crcF l : Nat)) ∧ w' = w := by
  subst hn; exact (refCrc_any l a cap w hin hle).mono fun e w' h => ⟨h.1, h.2.symm⟩
theorem refGet_at (l : List UInt8) (a : Option Addr) (n cap : Nat) (w : World) (hin : BytesAt w a l) (hn : n = l.length) (hle : l.length ≤ 8) :
    Calls Tryd.prog 33 #[.slice a n cap] w fun e w' => e = .returned (.int .u64 (ofBE l : Nat)) ∧ w' = w :=
  (refGet_any a n cap l w hin hn hle).mono fun _ _ h => ⟨h.1, h.2.symm⟩

set_option maxRecDepth 100000 in
set_option maxHeartbeats 2000000 in
theorem refOpenFrag_short (a : Option Addr) (n c : Nat) (l : List UInt8) (w : World) (hn : n = l.length) (hs : n < 89) :
    Calls Tryd.prog 14 #[.slice a n c] w (OpenPost l w) := by
  have HB : Hid (openOK l = false) := Lib.hid (by unfold openOK; rw [decide_eq_false (by omega)]; rfl)
  have hq : (w.alloc (.cells (fragA zeroD) 26)).heap[w.heap.size]? = some (.cells (fragA zeroD) 26 (0, 0)) := heap_alloc_new w _
  have hs0 : Spares nowhere w (w.alloc (.cells (fragA zeroD) 26)) := (Spares.refl _ w).alloc _
  obtain ⟨v1, hv1⟩ : ∃ v1, w.alloc (.cells (fragA zeroD) 26) = v1 := ⟨_, rfl⟩
  rw [hv1] at hq hs0
  have HV1 := Lib.hid hv1
  have HQ0 := Lib.hid (fun m => frag_stored (v := v1.drewN m) (G := zeroD) hq rfl rfl rfl rfl)
  have HS0 := Lib.hid hs0
  have HI := Lib.hid (sizeFrag zeroD rfl rfl)
  have i1 : (n : Int) < 89 := by omega
  have i1b : decide ((n : Int) < 89) = true := decide_eq_true i1
  clear hn hq hs0 hv1
  go_enter Tryd.func14, Tryd.ntmps14
  go_upto_region 1 with (fail)
  change Code.wp _ _ _ _ (w.alloc (.cells (fragA zeroD) 26))
  rw [HV1.out]
  go_quiet (fail)
  obtain ⟨d1, d2, d3⟩ := HQ0.out nq
  have HT0 := Lib.hid d1
  have HQQ := Lib.hid d2
  have HSS := Lib.hid ((HS0.out.drewN nq).trans' d3 (fun k hk => .inr (Nat.le_of_eq hk.symm)))
  clear d1 d2 d3
  go_wp2_with ((with_reducible show wpList _ _ _ (⟨none, .store 26 _ _, _, _, _, _⟩ :: _) _ _); refine wpList_store_mid rfl 26 (.tmp 2) (.tmp 32) rfl w.heap.size 0 (fragA zeroD) rfl rfl HT0.out HI.out (fragA_one _) ?_)
  exact bodyPost_ret (v := .tuple #[.agg (fragA zeroD), .slice none 0 0, .int .i64 40]) (results_cell_three rfl _ _ w.heap.size 26 (fragA zeroD) (0, 0) _ (.slice none 0 0) (.int .i64 40) rfl rfl rfl HQQ.out Tryd.underlying26 (by rfl) HI.out) rfl (open_bad HB.out rfl HSS.out)

set_option maxRecDepth 100000 in
set_option maxHeartbeats 12000000 in
theorem refOpenFrag_long (b off : Nat) (n c : Nat) (l : List UInt8) (w : World) (hl : BytesAt w (some ⟨b, off, none⟩) l) (hn : n = l.length) (hnc : n ≤ c) (hs : 89 ≤ n) (hmax : n ≤ 140737488351232) :
    Calls Tryd.prog 14 #[.slice (some ⟨b, off, none⟩) n c] w (OpenPost l w) := by
  have hq : (w.alloc (.cells (fragA zeroD) 26)).heap[w.heap.size]? = some (.cells (fragA zeroD) 26 (0, 0)) := heap_alloc_new w _
  have hs0 : Spares nowhere w (w.alloc (.cells (fragA zeroD) 26)) := (Spares.refl _ w).alloc _
  obtain ⟨v1, hv1⟩ : ∃ v1, w.alloc (.cells (fragA zeroD) 26) = v1 := ⟨_, rfl⟩
  rw [hv1] at hq hs0
  have HV1 := Lib.hid hv1
  have HQ0 := Lib.hid (fun m => frag_stored (v := v1.drewN m) (G := zeroD) hq rfl rfl rfl rfl)
  have HB : Hid (∀ W, Spares nowhere v1 W → BytesAt W (some ⟨b, off, none⟩) l) := Lib.hid (fun W hW => (hl.spares hs0 (fun _ _ _ h => h)).spares hW (fun _ _ _ h => h))
  have HZ1 := Lib.hid hq
  have HD : Hid (∀ m, Spares nowhere v1 (v1.drewN m)) := Lib.hid (fun m => (Spares.refl _ _).drewN m)
  have HS0 := Lib.hid hs0
  have HI := Lib.hid (sizeFrag zeroD rfl rfl)
  have HN := Lib.hid hn
  have i1 : ¬ (n : Int) < 89 := by omega
  have i1b : decide ((n : Int) < 89) = false := decide_eq_false i1
  have i2 : 89 ≤ c := by omega
  -- the mark
  obtain ⟨X, hX⟩ : ∃ X : ByteArray, (⟨(l.take 4).toArray⟩ : ByteArray) = X := ⟨_, rfl⟩
  obtain ⟨m, hm⟩ : ∃ m : Bool, (X.toList == [65, 77, 66, 82]) = m := ⟨_, rfl⟩
  have hm2 : decide (l.take 4 = markL) = m := by rw [← hm, ← hX]; exact (mark_eq l).symm
  have hcv : ∀ k, (convert 27 9 (.slice (some ⟨b, off, none⟩) 4 c)).run Tryd.prog (v1.drewN k) = .ok (.string X) (v1.drewN k) := fun k => by
    have := conv_bytes (bytesAt_takeF 4 (HB.out _ (HD.out k))) c
    rw [List.length_take, show min 4 l.length = 4 by omega, hX] at this
    exact this
  -- the crc
  obtain ⟨C, hC⟩ : ∃ C, crcF (l.take 85) = C := ⟨_, rfl⟩
  have hCl : C < 4294967296 := by rw [← hC]; unfold crcF; exact Nat.xor_lt_two_pow (n := 32) (by decide) (crcG_lt _)
  have hwC : IntKind.u64.wrap (C : Int) = (C : Int) := by rw [IntKind.wrap_u64]; omega
  have HCR : Hid (∀ k, Calls Tryd.prog 29 #[.slice (some ⟨b, off, none⟩) 85 c] (v1.drewN k) fun e w' => e = .returned (.int .u32 (C : Nat)) ∧ w' = v1.drewN k) := Lib.hid (fun k => by
    have := refCrc_at (l.take 85) (some ⟨b, off, none⟩) 85 c (v1.drewN k) (bytesAt_takeF 85 (HB.out _ (HD.out k))) (by simp; omega) (by rw [List.length_take]; omega)
    rw [hC] at this
    exact this)
  obtain ⟨t5, ht5⟩ : ∃ t, ofBE (cutF l 85 4) = t := ⟨_, rfl⟩
  have HGT : Hid (∀ k, Calls Tryd.prog 33 #[.slice (some ⟨b, off + 85, none⟩) 4 (c - 85)] (v1.drewN k) fun e w' => e = .returned (.int .u64 (t5 : Nat)) ∧ w' = v1.drewN k) := Lib.hid (fun k => by
    have := refGet_at (cutF l 85 4) (some ⟨b, off + 85, none⟩) 4 (c - 85) (v1.drewN k) (bytesAt_cut (HB.out _ (HD.out k)) 85 4) (cutF_len _ _ _ (by omega)).symm (by rw [cutF_len _ _ _ (by omega)]; omega)
    rw [ht5] at this
    exact this)
  -- last
  obtain ⟨x, hx⟩ : ∃ x, l[40]'(by omega) = x := ⟨_, rfl⟩
  have hcx : v1.cell? ⟨b, off + 40, none⟩ = some (.int .u8 x.toNat) := by
    obtain ⟨b', o', e, hc⟩ := (HB.out v1 (Spares.refl _ _)) 40 (by omega)
    injection e with e; injection e with e1 e2 e3
    subst e1; subst e2
    rw [hx] at hc
    exact hc
  have hx1 : ofBE (cutF l 40 1) = x.toNat := by
    unfold cutF
    rw [List.drop_eq_getElem_cons (by omega), List.take_succ_cons, List.take_zero, hx]
    simp [ofBE]
  -- size
  obtain ⟨t3, ht3⟩ : ∃ t, sizeO l = t := ⟨_, rfl⟩
  have hl3 : t3 < 4294967296 := by rw [← ht3]; exact ofBE_lt4 _ (cutF_len _ _ _ (by omega))
  have hw3 : IntKind.i64.wrap (t3 : Int) = (t3 : Int) := by rw [IntKind.wrap_i64]; omega
  have HOK : Hid (headOK l = (m && (decide (t5 = C) && (decide (x.toNat ≤ 1) && (decide (t3 ≤ 4096) && decide (t3 ≤ n - 89)))))) := Lib.hid (by
    unfold headOK
    rw [hm2, ht5, hC, hx1, ht3, ← hn])
  have HBAD0 : Hid ((m && (decide (t5 = C) && (decide (x.toNat ≤ 1) && (decide (t3 ≤ 4096) && decide (t3 ≤ n - 89))))) = false → openOK l = false) := Lib.hid (fun h => by
    unfold openOK
    rw [HOK.out, h]
    simp)
  have HT3 := Lib.hid ht3
  have HX1 := Lib.hid hx1
  have HXX : Hid (l[40]? = some x) := Lib.hid (by rw [List.getElem?_eq_getElem (by omega), hx])
  have HM := Lib.hid hm
  have HL := Lib.hid hl
  clear hq hs0 hv1 hn hm2 ht5 hC hx hx1 ht3 hX hl
  go_enter Tryd.func14, Tryd.ntmps14
  go_upto_region 1 with (fail)
  change Code.wp _ _ _ _ (w.alloc (.cells (fragA zeroD) 26))
  rw [HV1.out]
  cases m with
  | false =>
    have HBAD : Hid (openOK l = false) := Lib.hid (HBAD0.out (by simp))
    clear HCR HGT
    go_quiet (fail)
    obtain ⟨d1, d2, d3⟩ := HQ0.out nq
    have HT0 := Lib.hid d1
    have HQQ := Lib.hid d2
    have HSS := Lib.hid ((HS0.out.drewN nq).trans' d3 (fun k hk => .inr (Nat.le_of_eq hk.symm)))
    clear d1 d2 d3
    go_wp2_with ((with_reducible show wpList _ _ _ (⟨none, .store 26 _ _, _, _, _, _⟩ :: _) _ _); refine wpList_store_mid rfl 26 (.tmp 2) (.tmp 32) rfl w.heap.size 0 (fragA zeroD) rfl rfl HT0.out HI.out (fragA_one _) ?_)
    exact bodyPost_ret (v := .tuple #[.agg (fragA zeroD), .slice none 0 0, .int .i64 40]) (results_cell_three rfl _ _ w.heap.size 26 (fragA zeroD) (0, 0) _ (.slice none 0 0) (.int .i64 40) rfl rfl rfl HQQ.out Tryd.underlying26 (by rfl) HI.out) rfl (open_bad HBAD.out rfl HSS.out)
  | true =>
    by_cases g5 : t5 = C
    case neg =>
      have g5b : ((C : Int) == (t5 : Int)) = false := by simp; omega
      have g5c : ((C : Int) != (t5 : Int)) = true := by simp; omega
      have g5d : ¬ C = t5 := fun h => g5 h.symm
      have g5e : (C == t5) = false := by simpa using g5d
      have g5f : decide (C = t5) = false := decide_eq_false g5d
      have HBAD : Hid (openOK l = false) := Lib.hid (HBAD0.out (by simp [g5]))
      clear g5
      go_quiet (first | (go_at_call 29; exact Calls.quiet_of_same (HCR.out _)) | (go_at_call 33; exact Calls.quiet_of_same (HGT.out _)))
      obtain ⟨d1, d2, d3⟩ := HQ0.out nq
      have HT0 := Lib.hid d1
      have HQQ := Lib.hid d2
      have HSS := Lib.hid ((HS0.out.drewN nq).trans' d3 (fun k hk => .inr (Nat.le_of_eq hk.symm)))
      clear d1 d2 d3
      go_wp2_with ((with_reducible show wpList _ _ _ (⟨none, .store 26 _ _, _, _, _, _⟩ :: _) _ _); refine wpList_store_mid rfl 26 (.tmp 2) (.tmp 32) rfl w.heap.size 0 (fragA zeroD) rfl rfl HT0.out HI.out (fragA_one _) ?_)
      exact bodyPost_ret (v := .tuple #[.agg (fragA zeroD), .slice none 0 0, .int .i64 40]) (results_cell_three rfl _ _ w.heap.size 26 (fragA zeroD) (0, 0) _ (.slice none 0 0) (.int .i64 40) rfl rfl rfl HQQ.out Tryd.underlying26 (by rfl) HI.out) rfl (open_bad HBAD.out rfl HSS.out)
    have g5b : ((C : Int) == (t5 : Int)) = true := by simp; omega
    by_cases g2 : x.toNat ≤ 1
    case neg =>
      have g2b : (1 : Int) < (x.toNat : Int) := by omega
      have g2c : decide ((1 : Int) < (x.toNat : Int)) = true := decide_eq_true g2b
      have HBAD : Hid (openOK l = false) := Lib.hid (HBAD0.out (by simp [g2]))
      clear g2
      go_quiet (first | (go_at_call 29; exact Calls.quiet_of_same (HCR.out _)) | (go_at_call 33; exact Calls.quiet_of_same (HGT.out _)))
      obtain ⟨d1, d2, d3⟩ := HQ0.out nq
      have HT0 := Lib.hid d1
      have HQQ := Lib.hid d2
      have HSS := Lib.hid ((HS0.out.drewN nq).trans' d3 (fun k hk => .inr (Nat.le_of_eq hk.symm)))
      clear d1 d2 d3
      go_wp2_with ((with_reducible show wpList _ _ _ (⟨none, .store 26 _ _, _, _, _, _⟩ :: _) _ _); refine wpList_store_mid rfl 26 (.tmp 2) (.tmp 32) rfl w.heap.size 0 (fragA zeroD) rfl rfl HT0.out HI.out (fragA_one _) ?_)
      exact bodyPost_ret (v := .tuple #[.agg (fragA zeroD), .slice none 0 0, .int .i64 40]) (results_cell_three rfl _ _ w.heap.size 26 (fragA zeroD) (0, 0) _ (.slice none 0 0) (.int .i64 40) rfl rfl rfl HQQ.out Tryd.underlying26 (by rfl) HI.out) rfl (open_bad HBAD.out rfl HSS.out)
    have g2b : ¬ (1 : Int) < (x.toNat : Int) := by omega
    have g2c : decide ((1 : Int) < (x.toNat : Int)) = false := decide_eq_false g2b
    go_quiet (first | (go_at_call 29; exact Calls.quiet_of_same (HCR.out _)) | (go_at_call 33; exact Calls.quiet_of_same (HGT.out _)))
    obtain ⟨v2, hv2⟩ : ∃ v2, v1.drewN nq = v2 := ⟨_, rfl⟩
    have hd2 := HD.out nq
    have hQ2 := HQ0.out nq
    have HQZ : Hid (v2.heap[w.heap.size]? = some (.cells (fragA zeroD) 26 (0, 0))) := Lib.hid (by rw [← hv2]; exact HZ1.out)
    have HQL : Hid (w.heap.size < v2.heap.size) := Lib.hid (Array.getElem?_eq_some_iff.1 HQZ.out).1
    rw [hv2] at hd2 hQ2 ⊢
    have HGS := Lib.hid (refGet_at (cutF l 41 4) (some ⟨b, off + 41, none⟩) 4 (c - 41) v2 (bytesAt_cut (HB.out _ hd2) 41 4) (cutF_len _ _ _ (by have := HN.out; omega)).symm (by rw [cutF_len _ _ _ (by have := HN.out; omega)]; omega))
    have HS2 := Lib.hid (HS0.out.trans hd2)
    have HB2 := Lib.hid (HB.out _ hd2)
    have HQ2 := Lib.hid hQ2
    clear hd2 hQ2 hv2 HCR HGT hcv hcx HD HB HV1 HQ0 HS0
    go_wp2_with fail
    refine HGS.out.mono ?_
    rw [show ofBE (cutF l 41 4) = t3 from HT3.out]
    rintro e v2' ⟨rfl, hv22⟩
    rw [hv22]
    clear hv22
    clear HGS
    by_cases g3 : t3 ≤ 4096
    case neg =>
      have g3b : (4096 : Int) < (t3 : Int) := by omega
      have g3c : decide ((4096 : Int) < (t3 : Int)) = true := decide_eq_true g3b
      have HBAD : Hid (openOK l = false) := Lib.hid (HBAD0.out (by simp [g3]))
      clear g5 g3
      obtain ⟨d1, d2, d3⟩ := HQ2.out
      have HT0 := Lib.hid d1
      have HQQ := Lib.hid d2
      have HSS := Lib.hid (HS2.out.trans' d3 (fun k hk => .inr (Nat.le_of_eq hk.symm)))
      clear d1 d2 d3
      go_wp2_with ((with_reducible show wpList _ _ _ (⟨none, .store 26 _ _, _, _, _, _⟩ :: _) _ _); refine wpList_store_mid rfl 26 (.tmp 2) (.tmp 46) rfl w.heap.size 0 (fragA zeroD) rfl rfl HT0.out HI.out (fragA_one _) ?_)
      exact bodyPost_ret (v := .tuple #[.agg (fragA zeroD), .slice none 0 0, .int .i64 40]) (results_cell_three rfl _ _ w.heap.size 26 (fragA zeroD) (0, 0) _ (.slice none 0 0) (.int .i64 40) rfl rfl rfl HQQ.out Tryd.underlying26 (by rfl) HI.out) rfl (open_bad HBAD.out rfl HSS.out)
    have g3b : ¬ (4096 : Int) < (t3 : Int) := by omega
    have g3c : decide ((4096 : Int) < (t3 : Int)) = false := decide_eq_false g3b
    by_cases g4 : t3 ≤ n - 89
    case neg =>
      have g4b : (n : Int) < (89 : Int) + (t3 : Int) := by omega
      have g4c : decide ((n : Int) < (89 : Int) + (t3 : Int)) = true := decide_eq_true g4b
      have HBAD : Hid (openOK l = false) := Lib.hid (HBAD0.out (by simp [g4]))
      clear g5 g3 g4
      obtain ⟨d1, d2, d3⟩ := HQ2.out
      have HT0 := Lib.hid d1
      have HQQ := Lib.hid d2
      have HSS := Lib.hid (HS2.out.trans' d3 (fun k hk => .inr (Nat.le_of_eq hk.symm)))
      clear d1 d2 d3
      go_wp2_with ((with_reducible show wpList _ _ _ (⟨none, .store 26 _ _, _, _, _, _⟩ :: _) _ _); refine wpList_store_mid rfl 26 (.tmp 2) (.tmp 46) rfl w.heap.size 0 (fragA zeroD) rfl rfl HT0.out HI.out (fragA_one _) ?_)
      exact bodyPost_ret (v := .tuple #[.agg (fragA zeroD), .slice none 0 0, .int .i64 40]) (results_cell_three rfl _ _ w.heap.size 26 (fragA zeroD) (0, 0) _ (.slice none 0 0) (.int .i64 40) rfl rfl rfl HQQ.out Tryd.underlying26 (by rfl) HI.out) rfl (open_bad HBAD.out rfl HSS.out)
    have g4b : ¬ (n : Int) < (89 : Int) + (t3 : Int) := by omega
    have g4c : decide ((n : Int) < (89 : Int) + (t3 : Int)) = false := decide_eq_false g4b
    have HOK2 : Hid (headOK l = true) := Lib.hid (by rw [HOK.out]; simp [g5, g2, g3, g4])
    obtain ⟨Y, hY⟩ : ∃ Y, cutF l 89 t3 = Y := ⟨_, rfl⟩
    have hYl : Y.length = t3 := by rw [← hY]; exact cutF_len _ _ _ (by have := HN.out; omega)
    have HYY : Hid (cutF l 89 (sizeO l) = Y) := Lib.hid (by rw [HT3.out]; exact hY)
    have HYL := Lib.hid hYl
    obtain ⟨A, hA⟩ : ∃ A : Option Addr, (if c = 89 then some ⟨b, off, none⟩ else some ⟨b, off + 89, none⟩) = A := ⟨_, rfl⟩
    have HAY : Hid (BytesAt v2 A Y) := Lib.hid (by
      rw [← hA, ← hY]
      split
      · rw [show cutF l 89 t3 = [] from List.eq_nil_of_length_eq_zero (by rw [hY, hYl]; omega)]
        exact bytesAt_nil _ _
      · exact bytesAt_cut HB2.out 89 t3)
    have HAN : Hid (A = none → c - 89 = 0) := Lib.hid (fun e => by rw [← hA] at e; split at e <;> cases e)
    have j1 : (89 : Int) ≤ 89 + (t3 : Int) := by omega
    have j2 : (89 : Int) + (t3 : Int) ≤ (c : Int) := by omega
    have j3 : ((89 : Int) + (t3 : Int)).toNat = 89 + t3 := by omega
    have j4 : 89 + t3 - 89 = t3 := by omega
    clear g5 g3 g4 hY hYl
    go_upto_region 6 with (fail)
    go_upto_region 7 with ((with_reducible show wpList _ _ _ (⟨some 51, _, _, _, _, _⟩ :: _) _ _); refine wpList_row_bytes rfl _ _ rfl v2.heap.size _ [] rfl (row8_nil _ _) A (c - 89) t3 Y rfl HYL.out.symm HAY.out HAN.out (by simp; omega) (Nat.le_refl _) ?_; intro u3 v3 hr3 hs3)
    rw [List.nil_append] at hr3
    obtain ⟨a3, c3, hu3, hat3, hn3, hc3⟩ := hr3.shape
    rw [HYL.out] at hu3 hc3
    subst hu3
    have HAP : Hid (0 < Y.length → ∀ b' o', a3 = some ⟨b', o', none⟩ → ¬ b' = w.heap.size) := Lib.hid (fun _ b' o' e hb => by
      have := (Row8.lt hr3 b' (by rw [e]; rfl)).1
      have := HQL.out
      omega)
    have hs23 := HS2.out.trans' hs3 (fun k hk => .inr (Nat.le_trans HS2.out.size hk))
    have hb3 := HB2.out.spares' hs3 (fun _ b' o' e hk => by
      injection e with e; injection e with e _ _
      obtain ⟨b2, o2, e2, hc2⟩ := HB2.out 0 (by have := HN.out; omega)
      injection e2 with e2; injection e2 with e2 _ _
      subst e; subst e2
      rw [World.cell?, Array.getElem?_eq_none hk] at hc2
      cases hc2)
    have hq3 := hs3.heap (o := .cells (fragA zeroD) 26 (0, 0)) HQZ.out (fun h => by unfold atLeast at h; have := HS2.out.size; have := HQL.out; omega)
    obtain ⟨R, hR⟩ : ∃ R, shaF Y = R := ⟨_, rfl⟩
    have hRl : R.length = 32 := by rw [← hR]; exact shaF_len Y
    obtain ⟨SS, hSS⟩ : ∃ SS, cutF l 45 32 = SS := ⟨_, rfl⟩
    have hSl : SS.length = 32 := by rw [← hSS]; exact cutF_len _ _ _ (by have := HN.out; omega)
    have hcmp := keyr_equal R SS hRl hSl
    obtain ⟨ne, hne⟩ : ∃ ne : Bool, (!decide (R = SS)) = ne := ⟨_, rfl⟩
    have HKEEP : Hid (∀ W, Spares nowhere v3 W → BytesAt W a3 Y ∧ W.rangeAt b (off + 45) (Lib.byteCells SS)) := Lib.hid (fun W hW => by
      refine ⟨hat3.spares hW (fun _ _ _ h => h), ?_⟩
      have := bytesAt_cut (hb3.spares hW (fun _ _ _ h => h)) 45 32
      rw [show (l.drop 45).take 32 = SS from hSS] at this
      exact this.range)
    have HSB : Hid (∀ W, Spares nowhere v3 W → Calls Tryd.prog 28 #[.slice a3 t3 c3] W fun e w' => e = .returned (.agg (bytesV R)) ∧ Spares nowhere W w') := Lib.hid (fun W hW => by
      have := refSum_any a3 t3 c3 Y W (HKEEP.out W hW).1 HYL.out.symm (by omega) hn3
      rw [hR] at this
      exact this)
    have infoC : (Tryd.prog.info? 22).map (·.size) = some (Lib.byteCells SS).length := by rw [byteCells_len, hSl]; exact infoR32
    have HIC := Lib.hid infoC
    have HRR := Lib.hid hR
    have HSS := Lib.hid hSS
    have HSL := Lib.hid hSl
    have HS3 := Lib.hid hs23
    have HB3 := Lib.hid hb3
    have HQ3 := Lib.hid hq3
    have HA3 := Lib.hid hat3
    have HN3 := Lib.hid hn3
    have ka := fun W => arr32r (some ⟨b, off + 45, none⟩) (c - 45) W
    clear infoC hR hSS hSl hRl hs23 hb3 hq3 hat3 hn3 hr3 hs3 HQ2 HS2 HB2 HAY HAN hA j1 j2 j3 j4
    refine wp_region_quiet (C := fun W => Spares nowhere v3 W) (by kernel_rfl) (by kernel_rfl) (Spares.refl nowhere v3).drew ?_
    refine wpQuiet_step (fun K hK => ?_)
    refine quiet_if (.slice a3 t3 c3) (by rfl) (fun W hW => ?_) ?_
    · exact ⟨rfl, rfl⟩
    go_simp
    refine hK _ ?_
    clear hK K
    refine wpQuiet_step (fun K hK => ?_)
    refine quiet_if (.agg (bytesV R)) (by rfl) (fun W hW => ?_) ?_
    · go_simp
      refine (HSB.out W hW).mono ?_
      rintro e W' ⟨rfl, h⟩
      exact ⟨rfl, hW.trans h⟩
    go_simp
    refine hK _ ?_
    clear hK K
    refine wpQuiet_step (fun K hK => ?_)
    refine quiet_if (.slice (some ⟨b, off, none⟩) n c) (by rfl) (fun W hW => ?_) ?_
    · exact ⟨rfl, rfl⟩
    go_simp
    refine hK _ ?_
    clear hK K
    refine wpQuiet_step (fun K hK => ?_)
    refine quiet_if (.slice (some ⟨b, off + 45, none⟩) 32 (c - 45)) (by rfl) (fun W hW => ?_) ?_
    · have jc1 : (77 : Int) ≤ (c : Int) := by omega
      have jc2 : ¬ c = 45 := by omega
      go_simp
    go_simp
    refine hK _ ?_
    clear hK K
    refine wpQuiet_step (fun K hK => ?_)
    refine quiet_if (.pointer (some ⟨b, off + 45, none⟩)) (by rfl) (fun W hW => ?_) ?_
    · have h := ka W
      go_simp
    go_simp
    refine hK _ ?_
    clear hK K
    refine wpQuiet_step (fun K hK => ?_)
    refine quiet_if (.agg (bytesV SS)) (by rfl) (fun W hW => ?_) ?_
    · exact quiet_load 22 (.tmp 56) rfl b (off + 45) rfl (Lib.byteCells SS) _ W (HKEEP.out W hW).2 Tryd.underlying22 rfl HIC.out
    go_simp
    refine hK _ ?_
    clear hK K
    refine wpQuiet_step (fun K hK => ?_)
    refine quiet_if (.bool ne) (by rfl) (fun W hW => ?_) ?_
    · have h1 := hcmp W
      rw [← hne]
      go_simp
    go_simp
    refine hK _ ?_
    clear hK K
    refine wpQuiet_nil (fun v4 hW => ?_)
    have hgq := hW.heap HQ3.out (fun h => h)
    have HB4 := Lib.hid (HB3.out.spares hW (fun _ _ _ h => h))
    have HS4 := Lib.hid (HS3.out.trans hW)
    have HA4 := Lib.hid (HA3.out.spares hW (fun _ _ _ h => h))
    have HQ4 := Lib.hid hgq
    clear hgq hW HKEEP HSB HIC HQ3 HS3 HB3 HA3 hcmp ka
    cases ne with
    | true =>
      have hRS : R ≠ SS := fun h => by rw [decide_eq_true h] at hne; cases hne
      have HBAD : Hid (openOK l = false) := Lib.hid (by
        unfold openOK
        rw [HYY.out, HRR.out, HSS.out, decide_eq_false hRS]
        simp)
      obtain ⟨d1, d2, d3⟩ := frag_stored (G := zeroD) HQ4.out rfl rfl rfl rfl
      have HT0 := Lib.hid d1
      have HQQ := Lib.hid d2
      have HSE := Lib.hid (HS4.out.trans' d3 (fun k hk => .inr (Nat.le_of_eq hk.symm)))
      clear d1 d2 d3 hne hRS
      go_wp2_with ((with_reducible show wpList _ _ _ (⟨none, .store 26 _ _, _, _, _, _⟩ :: _) _ _); refine wpList_store_mid rfl 26 (.tmp 2) (.tmp 59) rfl w.heap.size 0 (fragA zeroD) rfl rfl HT0.out HI.out (fragA_one _) ?_)
      exact bodyPost_ret (v := .tuple #[.agg (fragA zeroD), .slice none 0 0, .int .i64 40]) (results_cell_three rfl _ _ w.heap.size 26 (fragA zeroD) (0, 0) _ (.slice none 0 0) (.int .i64 40) rfl rfl rfl HQQ.out Tryd.underlying26 (by rfl) HI.out) rfl (open_bad HBAD.out rfl HSE.out)
    | false =>
      have hRS : R = SS := by
        by_cases h : R = SS
        · exact h
        · rw [decide_eq_false h] at hne; cases hne
      have HGOOD : Hid (openOK l = true) := Lib.hid (by
        unfold openOK
        rw [HYY.out, HRR.out, HSS.out, decide_eq_true hRS, HOK2.out, decide_eq_true (by have := HN.out; omega)]
        rfl)
      obtain ⟨KK, hKK⟩ : ∃ KK, cutF l 4 32 = KK := ⟨_, rfl⟩
      have hKl : KK.length = 32 := by rw [← hKK]; exact cutF_len _ _ _ (by have := HN.out; omega)
      obtain ⟨t1, ht1⟩ : ∃ t, ofBE (cutF l 36 4) = t := ⟨_, rfl⟩
      have hl1 : t1 < 4294967296 := by rw [← ht1]; exact ofBE_lt4 _ (cutF_len _ _ _ (by have := HN.out; omega))
      have hw1 : IntKind.i64.wrap (t1 : Int) = (t1 : Int) := by rw [IntKind.wrap_i64]; omega
      obtain ⟨t4, ht4⟩ : ∃ t, ofBE (cutF l 77 8) = t := ⟨_, rfl⟩
      obtain ⟨L, hL⟩ : ∃ L : Bool, ((x.toNat : Int) == 1) = L := ⟨_, rfl⟩
      have hLL : decide (x.toNat = 1) = L := by
        rw [← hL]
        by_cases h : x.toNat = 1
        · rw [h]; rfl
        · rw [decide_eq_false h]; symm; simp; omega
      have hrd : readD l = { K := KK, part := (t1 : Int), last := L, size := (t3 : Int), S := SS, turn := t4 } := by
        unfold readD
        rw [hKK, ht1, HX1.out, HT3.out, HSS.out, ht4, hLL]
      have HBU := Lib.hid (frag_built KK SS hKl HSL.out (t1 : Int) L (t3 : Int) t4)
      rw [← hrd] at HBU
      have hbq : b < w.heap.size := by
        obtain ⟨b2, o2, e2, hc2⟩ := HL.out 0 (by have := HN.out; omega)
        injection e2 with e2; injection e2 with e2 _ _
        rcases Nat.lt_or_ge b w.heap.size with h | h
        · exact h
        · rw [← e2, World.cell?, Array.getElem?_eq_none h] at hc2
          cases hc2
      have hbW : ∀ W, Spares (fun k => k = w.heap.size) v4 W → BytesAt W (some ⟨b, off, none⟩) l := fun W hW => HB4.out.spares hW (fun b' o' e h => by injection e with e; injection e with e _ _; omega)
      have HG1 : Hid (∀ W, Spares (fun k => k = w.heap.size) v4 W → Calls Tryd.prog 33 #[.slice (some ⟨b, off + 36, none⟩) 4 (c - 36)] W fun e w' => e = .returned (.int .u64 (t1 : Nat)) ∧ w' = W) := Lib.hid (fun W hW => by
        have := refGet_at (cutF l 36 4) (some ⟨b, off + 36, none⟩) 4 (c - 36) W (bytesAt_cut (hbW W hW) 36 4) (cutF_len _ _ _ (by have := HN.out; omega)).symm (by rw [cutF_len _ _ _ (by have := HN.out; omega)]; omega)
        rw [ht1] at this
        exact this)
      have HG2 : Hid (∀ W, Spares (fun k => k = w.heap.size) v4 W → Calls Tryd.prog 33 #[.slice (some ⟨b, off + 77, none⟩) 8 (c - 77)] W fun e w' => e = .returned (.int .u64 (t4 : Nat)) ∧ w' = W) := Lib.hid (fun W hW => by
        have := refGet_at (cutF l 77 8) (some ⟨b, off + 77, none⟩) 8 (c - 77) W (bytesAt_cut (hbW W hW) 77 8) (cutF_len _ _ _ (by have := HN.out; omega)).symm (by rw [cutF_len _ _ _ (by have := HN.out; omega)]; omega)
        rw [ht4] at this
        exact this)
      have HIK : Hid ((Tryd.prog.info? 23).map (·.size) = some (Lib.byteCells KK).length) := Lib.hid (by rw [byteCells_len, hKl]; exact infoKey)
      have HIK2 : Hid ((Tryd.prog.info? 23).map (·.size) = some (Lib.byteCells SS).length) := Lib.hid (by rw [byteCells_len, HSL.out]; exact infoKey)
      have kb := fun W => arr32k (some ⟨b, off + 4, none⟩) (c - 4) W
      have kd := fun W => arr32k (some ⟨b, off + 45, none⟩) (c - 45) W
      have HFL : Hid ((readD l).K.length = 32 ∧ (readD l).S.length = 32) := Lib.hid (by rw [hrd]; exact ⟨hKl, HSL.out⟩)
      have HI2 := Lib.hid (sizeFrag (readD l) HFL.out.1 HFL.out.2)
      have HKP : Hid (∀ W, Spares (fun k => k = w.heap.size) v4 W → W.rangeAt b (off + 4) (Lib.byteCells KK) ∧ W.rangeAt b (off + 45) (Lib.byteCells SS) ∧ W.cell? ⟨b, off + 40, none⟩ = some (.int .u8 x.toNat)) := Lib.hid (fun W hW => by
        refine ⟨?_, ?_, ?_⟩
        · have := bytesAt_cut (hbW W hW) 4 32
          rw [show (l.drop 4).take 32 = KK from hKK] at this
          exact this.range
        · have := bytesAt_cut (hbW W hW) 45 32
          rw [show (l.drop 45).take 32 = SS from HSS.out] at this
          exact this.range
        · obtain ⟨b', o', e, hc⟩ := (hbW W hW) 40 (by have := HN.out; omega)
          injection e with e; injection e with e1 e2 e3
          subst e1; subst e2
          have h40 := HXX.out
          rw [List.getElem?_eq_getElem (by have := HN.out; omega)] at h40
          injection h40 with h40
          rw [h40] at hc
          exact hc)
      have bd : ∀ W : World, (Instr.build 26 #[(0, .agg (bytesV KK)), (1, .int .i64 (t1 : Int)), (2, .bool L), (3, .int .i64 (t3 : Int)), (4, .agg (bytesV SS)), (5, .int .u64 (t4 : Int))]).run Tryd.prog W = .ok (.agg (fragA (readD l))) W := fun W => run_build W _ _ _ HBU.out
      obtain ⟨d1, d2, d3⟩ := frag_stored (v := v4.drew) (G := readD l) (((Spares.refl nowhere v4).drew).heap HQ4.out (fun h => h)) rfl rfl HFL.out.1 HFL.out.2
      obtain ⟨v5, hv5⟩ : ∃ v5, v4.drew.setCells w.heap.size 0 (fragA (readD l)).toList = v5 := ⟨_, rfl⟩
      rw [hv5] at d2 d3
      have HV5 := Lib.hid hv5
      have HTH := Lib.hid d1
      have HQQ := Lib.hid d2
      have HSE := Lib.hid ((HS4.out.drew).trans' d3 (fun k hk => .inr (Nat.le_of_eq hk.symm)))
      have HBY : Hid (BytesAt v5 a3 Y) := Lib.hid ((HA4.out.spares ((Spares.refl nowhere v4).drew) (fun _ _ _ h => h)).spares' d3 (fun hpos b' o' e hb => HAP.out hpos b' o' e hb))
      have HH5 : Hid (Spares (fun k => k = w.heap.size) v4 v5) := Lib.hid (((Spares.refl _ v4).drew).trans d3)
      have jc1 : (77 : Int) ≤ (c : Int) := by omega
      have jc2 : ¬ c = 4 := by omega
      have jc3 : ¬ c = 36 := by omega
      have jc4 : ¬ c = 45 := by omega
      have jc5 : ¬ c = 77 := by omega
      have jc6 : (85 : Int) ≤ (c : Int) := by omega
      have jc7 : (40 : Int) < (n : Int) := by omega
      have jc8 : (36 : Int) ≤ (c : Int) := by omega
      have jc9 : (40 : Int) ≤ (c : Int) := by omega
      clear hKK hKl ht1 ht4 hLL hrd hne hRS d1 d2 d3 hv5 hbW HQ4 HS4 HB4 HA4 hbq
      go_upto_region 9 with (fail)
      refine wp_region_held_drew (S := fun W => Spares (fun k => k = w.heap.size) v4 W) (by kernel_rfl) (Spares.refl _ _).drew (fun hHeld => ?_)
      refine wpAnyH_takeTo (i := 0) (d := some 60) (v := .slice (some ⟨b, off, none⟩) n c) rfl rfl (by kernel_rfl) (by kernel_rfl) (by kernel_rfl) (fun _ _ _ h => h) (Or.inl ⟨by rfl, fun W hW => ?_⟩) hHeld ?_
      · go_simp
      simp only [Act.put, List.setIfInBounds_toArray, List.set_cons_zero, List.set_cons_succ]
      refine wpAnyH_takeTo (i := 1) (d := some 61) (v := .slice (some ⟨b, off + 4, none⟩) 32 (c - 4)) rfl rfl (by kernel_rfl) (by kernel_rfl) (by kernel_rfl) (fun _ _ _ h => h) (Or.inl ⟨by rfl, fun W hW => ?_⟩) hHeld ?_
      · go_simp
      simp only [Act.put, List.setIfInBounds_toArray, List.set_cons_zero, List.set_cons_succ]
      refine wpAnyH_takeTo (i := 2) (d := some 62) (v := .pointer (some ⟨b, off + 4, none⟩)) rfl rfl (by kernel_rfl) (by kernel_rfl) (by kernel_rfl) (fun _ _ _ h => h) (Or.inl ⟨by rfl, fun W hW => ?_⟩) hHeld ?_
      · have h := kb W
        go_simp
      simp only [Act.put, List.setIfInBounds_toArray, List.set_cons_zero, List.set_cons_succ]
      refine wpAnyH_takeTo (i := 3) (d := some 63) (v := .agg (bytesV KK)) rfl rfl (by kernel_rfl) (by kernel_rfl) (by kernel_rfl) (fun _ _ _ h => h) (yieldsIf_load_mid (by rfl) 23 (.tmp 62) rfl b (off + 4) rfl (Lib.byteCells KK) _ (fun W hW => (HKP.out W hW).1) Tryd.underlying23 rfl HIK.out) hHeld ?_
      simp only [Act.put, List.setIfInBounds_toArray, List.set_cons_zero, List.set_cons_succ]
      refine wpAnyH_takeTo (i := 4) (d := some 64) (v := .slice (some ⟨b, off, none⟩) n c) rfl rfl (by kernel_rfl) (by kernel_rfl) (by kernel_rfl) (fun _ _ _ h => h) (Or.inl ⟨by rfl, fun W hW => ?_⟩) hHeld ?_
      · go_simp
      simp only [Act.put, List.setIfInBounds_toArray, List.set_cons_zero, List.set_cons_succ]
      refine wpAnyH_takeTo (i := 5) (d := some 65) (v := .slice (some ⟨b, off + 36, none⟩) 4 (c - 36)) rfl rfl (by kernel_rfl) (by kernel_rfl) (by kernel_rfl) (fun _ _ _ h => h) (Or.inl ⟨by rfl, fun W hW => ?_⟩) hHeld ?_
      · go_simp
      simp only [Act.put, List.setIfInBounds_toArray, List.set_cons_zero, List.set_cons_succ]
      refine wpAnyH_takeTo (i := 8) (d := some 68) (v := .slice (some ⟨b, off, none⟩) n c) rfl rfl (by kernel_rfl) (by kernel_rfl) (by kernel_rfl) (fun _ _ _ h => h) (Or.inl ⟨by rfl, fun W hW => ?_⟩) hHeld ?_
      · go_simp
      simp only [Act.put, List.setIfInBounds_toArray, List.set_cons_zero, List.set_cons_succ]
      refine wpAnyH_takeTo (i := 9) (d := some 69) (v := .pointer (some ⟨b, off + 40, none⟩)) rfl rfl (by kernel_rfl) (by kernel_rfl) (by kernel_rfl) (fun _ _ _ h => h) (Or.inl ⟨by rfl, fun W hW => ?_⟩) hHeld ?_
      · go_simp
      simp only [Act.put, List.setIfInBounds_toArray, List.set_cons_zero, List.set_cons_succ]
      refine wpAnyH_takeTo (i := 10) (d := some 70) (v := .int .u8 x.toNat) rfl rfl (by kernel_rfl) (by kernel_rfl) (by kernel_rfl) (fun _ _ _ h => h) (Or.inl ⟨by rfl, fun W hW => ?_⟩) hHeld ?_
      · have h := (HKP.out W hW).2.2
        go_simp
      simp only [Act.put, List.setIfInBounds_toArray, List.set_cons_zero, List.set_cons_succ]
      refine wpAnyH_takeTo (i := 11) (d := some 71) (v := .bool L) rfl rfl (by kernel_rfl) (by kernel_rfl) (by kernel_rfl) (fun _ _ _ h => h) (Or.inl ⟨by rfl, fun W hW => ?_⟩) hHeld ?_
      · rw [← hL]
        go_simp
      simp only [Act.put, List.setIfInBounds_toArray, List.set_cons_zero, List.set_cons_succ]
      refine wpAnyH_takeTo (i := 12) (d := some 72) (v := .int .i64 (t3 : Nat)) rfl rfl (by kernel_rfl) (by kernel_rfl) (by kernel_rfl) (fun _ _ _ h => h) (Or.inl ⟨by rfl, fun W hW => ?_⟩) hHeld ?_
      · go_simp
      simp only [Act.put, List.setIfInBounds_toArray, List.set_cons_zero, List.set_cons_succ]
      refine wpAnyH_takeTo (i := 13) (d := some 73) (v := .slice (some ⟨b, off, none⟩) n c) rfl rfl (by kernel_rfl) (by kernel_rfl) (by kernel_rfl) (fun _ _ _ h => h) (Or.inl ⟨by rfl, fun W hW => ?_⟩) hHeld ?_
      · go_simp
      simp only [Act.put, List.setIfInBounds_toArray, List.set_cons_zero, List.set_cons_succ]
      refine wpAnyH_takeTo (i := 14) (d := some 74) (v := .slice (some ⟨b, off + 45, none⟩) 32 (c - 45)) rfl rfl (by kernel_rfl) (by kernel_rfl) (by kernel_rfl) (fun _ _ _ h => h) (Or.inl ⟨by rfl, fun W hW => ?_⟩) hHeld ?_
      · go_simp
      simp only [Act.put, List.setIfInBounds_toArray, List.set_cons_zero, List.set_cons_succ]
      refine wpAnyH_takeTo (i := 15) (d := some 75) (v := .pointer (some ⟨b, off + 45, none⟩)) rfl rfl (by kernel_rfl) (by kernel_rfl) (by kernel_rfl) (fun _ _ _ h => h) (Or.inl ⟨by rfl, fun W hW => ?_⟩) hHeld ?_
      · have h := kd W
        go_simp
      simp only [Act.put, List.setIfInBounds_toArray, List.set_cons_zero, List.set_cons_succ]
      refine wpAnyH_takeTo (i := 16) (d := some 76) (v := .agg (bytesV SS)) rfl rfl (by kernel_rfl) (by kernel_rfl) (by kernel_rfl) (fun _ _ _ h => h) (yieldsIf_load_mid (by rfl) 23 (.tmp 75) rfl b (off + 45) rfl (Lib.byteCells SS) _ (fun W hW => (HKP.out W hW).2.1) Tryd.underlying23 rfl HIK2.out) hHeld ?_
      simp only [Act.put, List.setIfInBounds_toArray, List.set_cons_zero, List.set_cons_succ]
      refine wpAnyH_takeTo (i := 17) (d := some 77) (v := .slice (some ⟨b, off, none⟩) n c) rfl rfl (by kernel_rfl) (by kernel_rfl) (by kernel_rfl) (fun _ _ _ h => h) (Or.inl ⟨by rfl, fun W hW => ?_⟩) hHeld ?_
      · go_simp
      simp only [Act.put, List.setIfInBounds_toArray, List.set_cons_zero, List.set_cons_succ]
      refine wpAnyH_takeTo (i := 18) (d := some 78) (v := .slice (some ⟨b, off + 77, none⟩) 8 (c - 77)) rfl rfl (by kernel_rfl) (by kernel_rfl) (by kernel_rfl) (fun _ _ _ h => h) (Or.inl ⟨by rfl, fun W hW => ?_⟩) hHeld ?_
      · go_simp
      simp only [Act.put, List.setIfInBounds_toArray, List.set_cons_zero, List.set_cons_succ]
      refine wpAnyH_takeTo (i := 21) (d := some 81) (v := .slice a3 t3 c3) rfl rfl (by kernel_rfl) (by kernel_rfl) (by kernel_rfl) (fun _ _ _ h => h) (Or.inl ⟨by rfl, fun W hW => ?_⟩) hHeld ?_
      · go_simp
      simp only [Act.put, List.setIfInBounds_toArray, List.set_cons_zero, List.set_cons_succ]
      refine wpAnyH_callTo (i := 6) (d := some 66) (by kernel_rfl) rfl rfl (by rfl) (.int .u64 (t1 : Nat)) (fun K hK => ?_) hHeld ?_
      · go_simp
        go_at_call 33
        refine Calls.mono (HG1.out _ hHeld) ?_
        rintro e w9 ⟨rfl, rfl⟩
        exact hK
      simp only [Act.put, List.setIfInBounds_toArray, List.set_cons_zero, List.set_cons_succ]
      refine wpAnyH_takeTo (i := 7) (d := some 67) (v := .int .i64 (t1 : Nat)) rfl rfl (by kernel_rfl) (by kernel_rfl) (by kernel_rfl) (fun _ _ _ h => h) (Or.inl ⟨by rfl, fun W hW => ?_⟩) hHeld ?_
      · go_simp
      simp only [Act.put, List.setIfInBounds_toArray, List.set_cons_zero, List.set_cons_succ]
      refine wpAnyH_callTo (i := 19) (d := some 79) (by kernel_rfl) rfl rfl (by rfl) (.int .u64 (t4 : Nat)) (fun K hK => ?_) hHeld ?_
      · go_simp
        go_at_call 33
        refine Calls.mono (HG2.out _ hHeld) ?_
        rintro e w9 ⟨rfl, rfl⟩
        exact hK
      simp only [Act.put, List.setIfInBounds_toArray, List.set_cons_zero, List.set_cons_succ]
      refine wpAnyH_takeTo (i := 20) (d := some 80) (v := .agg (fragA (readD l))) rfl rfl (by kernel_rfl) (by kernel_rfl) (by kernel_rfl) (fun _ _ _ h => h) (Or.inl ⟨by rfl, fun W hW => ?_⟩) hHeld ?_
      · exact build_yields 26 _ rfl _ (by simp only [List.map_toArray, List.map_cons, List.map_nil]; exact HBU.out) W
      simp only [Act.put, List.setIfInBounds_toArray, List.set_cons_zero, List.set_cons_succ]
      refine wpAnyH_storeTo (i := 22) (by kernel_rfl) rfl rfl (by rfl) 26 (.tmp 2) (.tmp 80) rfl w.heap.size 0 (fragA (readD l)) rfl rfl HTH.out HI2.out (fragA_one _) (by rw [HV5.out]; exact HH5.out) ?_
      rw [HV5.out]
      replace hHeld := HH5.out
      refine wpAnyH_takeTo (i := 23) (d := some 3) (v := .slice a3 t3 c3) rfl rfl (by kernel_rfl) (by kernel_rfl) (by kernel_rfl) (fun _ _ _ h => h) (Or.inl ⟨by rfl, fun W hW => ?_⟩) hHeld ?_
      · go_simp
      simp only [Act.put, List.setIfInBounds_toArray, List.set_cons_zero, List.set_cons_succ]
      refine wpAnyH_takeTo (i := 24) (d := some 4) (v := .int .i64 0) rfl rfl (by kernel_rfl) (by kernel_rfl) (by kernel_rfl) (fun _ _ _ h => h) (Or.inl ⟨by rfl, fun W hW => ?_⟩) hHeld ?_
      · go_simp
      simp only [Act.put, List.setIfInBounds_toArray, List.set_cons_zero, List.set_cons_succ]
      refine wpAnyH_done (by kernel_rfl) ?_ _
      go_wp2_with fail
      exact bodyPost_ret (v := .tuple #[.agg (fragA (readD l)), .slice a3 t3 c3, .int .i64 0]) (results_cell_three rfl _ _ w.heap.size 26 (fragA (readD l)) (0, 0) _ (.slice a3 t3 c3) (.int .i64 0) rfl rfl rfl HQQ.out Tryd.underlying26 (by rfl) HI2.out) rfl (open_good (a := a3) (c := c3) HGOOD.out (by rw [HYY.out, HYL.out]) (by rw [HYY.out]; exact HBY.out) HN3.out HSE.out)
end Go.Proofs.YtimpnnhadjfijaaDoor
