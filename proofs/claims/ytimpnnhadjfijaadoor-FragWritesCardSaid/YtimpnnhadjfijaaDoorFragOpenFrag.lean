/-
  A fragment, read.
-/
import Derived.Test.YtimpnnhadjfijaaDoorFragOpenMath
namespace Go.Proofs.YtimpnnhadjfijaaDoor
open Go.RowKit CrcMath

set_option maxRecDepth 100000 in
set_option maxHeartbeats 2000000 in
theorem openFrag_short (a : Option Addr) (n c : Nat) (l : List UInt8) (w : World) (hn : n = l.length) (hs : n < 89) :
    Calls Tryd.prog 13 #[.slice a n c] w (OpenPost l w) := by
  have HB : Hid (openOK l = false) := Lib.hid (by unfold openOK; rw [decide_eq_false (by omega)]; rfl)
  have hq : (w.alloc (.cells (fragA zeroD) 26)).heap[w.heap.size]? = some (.cells (fragA zeroD) 26 (0, 0)) := heap_alloc_new w _
  obtain ⟨h1, h2, h3⟩ := frag_stored (G := zeroD) hq rfl rfl rfl rfl
  have HT := Lib.hid h1
  have HQ := Lib.hid h2
  have HS := Lib.hid (((Spares.refl nowhere w).alloc (.cells (fragA zeroD) 26)).trans' h3 (fun b hb => .inr (Nat.le_of_eq hb.symm)))
  have HI := Lib.hid (sizeFrag zeroD rfl rfl)
  have i1 : (n : Int) < 89 := by omega
  clear hn hq h1 h2 h3
  go_enter Tryd.func13, Tryd.ntmps13
  go_wp2_with ((with_reducible show wpList _ _ _ (⟨none, .store 26 _ _, _, _, _, _⟩ :: _) _ _); refine wpList_store_mid rfl 26 (.tmp 2) (.tmp 16) rfl w.heap.size 0 (fragA zeroD) rfl rfl HT.out HI.out (fragA_one _) ?_)
  exact bodyPost_ret (v := .tuple #[.agg (fragA zeroD), .slice none 0 0, .int .i64 40]) (results_cell_three rfl _ _ w.heap.size 26 (fragA zeroD) (0, 0) _ (.slice none 0 0) (.int .i64 40) rfl rfl rfl HQ.out Tryd.underlying26 (by rfl) HI.out) rfl (open_bad HB.out rfl HS.out)

set_option maxRecDepth 100000 in
set_option maxHeartbeats 12000000 in
theorem openFrag_long (b off : Nat) (n c : Nat) (l : List UInt8) (w : World) (hT : Steps w) (hl : BytesAt w (some ⟨b, off, none⟩) l) (hn : n = l.length) (hnc : n ≤ c) (hs : 89 ≤ n) (hmax : n ≤ 140737488351232) :
    Calls Tryd.prog 13 #[.slice (some ⟨b, off, none⟩) n c] w (OpenPost l w) := by
  have hb : b < w.heap.size := by
    obtain ⟨b', o', e, hc⟩ := hl 0 (by omega)
    injection e with e; injection e with e1 e2 e3; subst e1
    rcases Nat.lt_or_ge b w.heap.size with h | h
    · exact h
    · simp [World.cell?, Array.getElem?_eq_none h] at hc
  obtain ⟨v2, hv2⟩ : ∃ v2, (w.alloc (.cells (fragA zeroD) 26)).alloc (.cells #[.slice (some ⟨b, off, none⟩) n c] 63) = v2 := ⟨_, rfl⟩
  have HV2 := Lib.hid hv2
  have HQ2 : Hid (v2.heap[w.heap.size]? = some (.cells (fragA zeroD) 26 (0, 0))) := Lib.hid (by
    rw [← hv2]
    exact (Below.heap_alloc _ _ _ (by simp)).trans (heap_alloc_new w _))
  have hs2 : Spares nowhere w v2 := by rw [← hv2]; exact ((Spares.refl _ w).alloc _).alloc _
  have HZ2 : Hid (v2.heap.size = w.heap.size + 2) := Lib.hid (by rw [← hv2]; simp)
  have HR2 : Hid (IsFR (w.heap.size + 1) b l v2) := Lib.hid (by
    refine ⟨by omega, by have := HZ2.out; omega, off, c, ?_, hl.spares hs2 (fun _ _ _ h => h), by omega⟩
    rw [← hv2, ← hn]
    have := heap_alloc_new (w.alloc (.cells (fragA zeroD) 26)) (.cells #[.slice (some ⟨b, off, none⟩) n c] 63)
    simpa using this)
  have HS2 := Lib.hid hs2
  have HL := Lib.hid hl
  have HN := Lib.hid hn
  have HT := Lib.hid hT
  have HB := Lib.hid hb
  have i1 : ¬ (n : Int) < 89 := by omega
  have i2 : (85 : Int) ≤ (c : Int) := by omega
  clear hl hn hT hb hv2 hs2
  go_enter Tryd.func13, Tryd.ntmps13
  go_wp2_with fail
  change Calls _ _ _ ((w.alloc (.cells (fragA zeroD) 26)).alloc (.cells #[.slice (some ⟨b, off, none⟩) n c] 63)) _
  rw [HV2.out]
  refine (frText_any _ b l 4 v2 HR2.out (by have := HN.out; omega) (by have := HN.out; omega)).mono ?_
  rintro e v3 ⟨o3, rfl, hb3, hr3, hs3⟩
  obtain ⟨X, hX⟩ : ∃ X : ByteArray, (⟨(l.take 4).toArray⟩ : ByteArray) = X := ⟨_, rfl⟩
  have hcv := conv_bytes hb3 4
  rw [List.length_take, show min 4 l.length = 4 by have := HN.out; omega, hX] at hcv
  have hq3 := hs3.heap HQ2.out (fun h => by omega)
  have HX := Lib.hid hX
  have HR3 := Lib.hid hr3
  have HQ3 := Lib.hid hq3
  have HS3 := Lib.hid (HS2.out.trans' hs3 (fun k hk => .inr (by omega)))
  obtain ⟨q, hq⟩ : ∃ q, v3.heap.size = q := ⟨_, rfl⟩
  have hqw : w.heap.size + 2 ≤ q := by rw [← hq, ← HZ2.out]; exact hs3.size
  clear hb3 hr3 hs3 hq3 hX
  obtain ⟨m, hm⟩ : ∃ m : Bool, (X.toList == [65, 77, 66, 82]) = m := ⟨_, rfl⟩
  have HM := Lib.hid hm
  obtain ⟨v4, hv4⟩ : ∃ v4, v3.alloc (.cells (fragA zeroD) 26) = v4 := ⟨_, rfl⟩
  have HV4 := Lib.hid hv4
  have hs34 : Spares nowhere v3 v4 := by rw [← hv4]; exact (Spares.refl _ v3).alloc _
  have HG4 : Hid (v4.heap[q]? = some (.cells (fragA zeroD) 26 (0, 0))) := Lib.hid (by rw [← hv4, ← hq]; exact heap_alloc_new v3 _)
  have HR4 := Lib.hid (HR3.out.spares hs34 (fun h => h) (fun h => h))
  have HQ4 := Lib.hid (hs34.heap HQ3.out (fun h => h))
  have HS4 := Lib.hid (HS3.out.trans hs34)
  have ks := slice_key32
  clear hv4 hs34 HR3 HQ3 HS3
  go_upto_region 7 with (fail)
  change Code.wp _ _ _ _ (v3.alloc (.cells (fragA zeroD) 26))
  rw [HV4.out]
  clear hq hcv hm
  go_region_law
    (first
      | (go_simp
         go_at_call 30
         refine (frText_any _ b (l.drop 4) 32 _ (HR4.out.spares (F := nowhere) ((Spares.refl _ _).drew) (fun h => h) (fun h => h)) (by have := HN.out; simp; omega) (by have := HN.out; simp; omega)).mono ?_
         rintro e v5 ⟨o5, rfl, hb5, hr5, hs5⟩
         obtain ⟨v6, hrun, hg6, hs6⟩ := copy_key (hs5.heap (o := .cells (fragA zeroD) 26 (0, 0)) HG4.out (fun h => by omega)) hb5 (by have := HN.out; simp; omega) rfl rfl 32 32 3)
      | (refine step_copy_runI rfl _ _ 27 27 rfl (.slice (some ⟨q, 0, none⟩) 32 32) (.slice (some ⟨b, o5, none⟩) 32 32) (by rfl) (by rfl) hrun ?_))
  -- GEN
  have hr6 : IsFR (w.heap.size + 1) b (l.drop 36) v6 := by
    have := hr5.spares hs6 (fun h => by omega) (fun h => by have := HB.out; omega)
    simpa [List.drop_drop] using this
  have hq6 := hs6.heap (hs5.heap (o := .cells (fragA zeroD) 26 (0, 0)) HQ4.out (fun h => by omega)) (fun h => by omega)
  have hs46 := ((HS4.out.drew).trans' hs5 (fun k hk => .inr (by omega))).trans' hs6 (fun k hk => .inr (by omega))
  have HR6 := Lib.hid hr6
  have HG6 : Hid (v6.heap[q]? = some (.cells (fragA { zeroD with K := cutF l 4 32 }) 26 (0, 0))) := Lib.hid hg6
  have HQ6 := Lib.hid hq6
  have HS6 := Lib.hid hs46
  clear hb5 hr5 hs5 hrun hg6 hs6 hr6 hq6 hs46 HR4 HG4 HQ4 HS4
  have hK : (cutF l 4 32).length = 32 := cutF_len _ _ _ (by have := HN.out; omega)
  have HK := Lib.hid hK
  clear hK
  -- part
  obtain ⟨t1, ht1⟩ : ∃ t, ofBE (cutF l 36 4) = t := ⟨_, rfl⟩
  have hl1 : t1 < 4294967296 := by rw [← ht1]; exact ofBE_lt4 _ (cutF_len _ _ _ (by have := HN.out; omega))
  have hw1 : IntKind.i64.wrap (t1 : Int) = (t1 : Int) := by rw [IntKind.wrap_i64]; omega
  have HT1 := Lib.hid ht1
  clear ht1
  go_wp2_with fail
  refine (frNum_any _ b (l.drop 36) 4 v6 HR6.out (by have := HN.out; simp; omega) (by omega) (by have := HN.out; simp; omega)).mono ?_
  rintro e v7 ⟨rfl, hr7, hs7⟩
  rw [show ofBE ((l.drop 36).take 4) = t1 from HT1.out]
  have hg7 := hs7.heap HG6.out (fun h => by omega)
  have c7 := (frag_cells hg7 HK.out rfl).2.1
  have z7 : v7.frozen? ⟨q, 32, none⟩ = false := Lib.frozen_of_heap hg7 32
  have hst := heap_set hg7 32 (.int .i64 (t1 : Int))
  rw [fragA_part _ _ HK.out] at hst
  have hs8 : Spares (fun x => x = q) v7 (v7.setCell ⟨q, 32, none⟩ (.int .i64 (t1 : Int))) := Spares.setCell (F := fun b => b = q) (Spares.refl _ v7) (p := ⟨q, 32, none⟩) (.inl rfl) _
  obtain ⟨v8, hv8⟩ : ∃ v8, v7.setCell ⟨q, 32, none⟩ (.int .i64 (t1 : Int)) = v8 := ⟨_, rfl⟩
  rw [hv8] at hst hs8
  have HV8 := Lib.hid hv8
  have hr8 : IsFR (w.heap.size + 1) b (l.drop 40) v8 := by
    have := hr7.spares hs8 (fun h => by omega) (fun h => by have := HB.out; omega)
    simpa [List.drop_drop] using this
  have HR8 := Lib.hid hr8
  have HG8 := Lib.hid hst
  have HQ8 := Lib.hid (hs8.heap (hs7.heap HQ6.out (fun h => by omega)) (fun h => by omega))
  have HS8 := Lib.hid ((HS6.out.trans' hs7 (fun k hk => .inr (by omega))).trans' hs8 (fun k hk => .inr (by omega)))
  clear hr7 hs7 hg7 hst hs8 hv8 hr8 HR6 HG6 HQ6 HS6
  -- last
  obtain ⟨t2, ht2⟩ : ∃ t, ofBE (cutF l 40 1) = t := ⟨_, rfl⟩
  have hl2 : t2 < 256 := by rw [← ht2]; have := ofBE_lt (cutF l 40 1); rw [cutF_len _ _ _ (by have := HN.out; omega)] at this; simpa using this
  have HT2 := Lib.hid ht2
  clear ht2
  go_wp2_with fail
  change Calls _ _ _ (v7.setCell ⟨q, 32, none⟩ (.int .i64 (t1 : Int))) _
  rw [HV8.out]
  clear c7 z7
  refine (frNum_any _ b (l.drop 40) 1 v8 HR8.out (by have := HN.out; simp; omega) (by omega) (by have := HN.out; simp; omega)).mono ?_
  rintro e v9 ⟨rfl, hr9, hs9⟩
  rw [show ofBE ((l.drop 40).take 1) = t2 from HT2.out]
  obtain ⟨L, hL⟩ : ∃ L : Bool, ((t2 : Int) == 1) = L := ⟨_, rfl⟩
  have HLL : Hid (decide (t2 = 1) = L) := Lib.hid (by
    rw [← hL]
    by_cases h : t2 = 1
    · subst h; rfl
    · rw [decide_eq_false h]; symm; simp; omega)
  have hg9 := hs9.heap HG8.out (fun h => by omega)
  have c9 := (frag_cells hg9 HK.out rfl).2.2.1
  have z9 : v9.frozen? ⟨q, 33, none⟩ = false := Lib.frozen_of_heap hg9 33
  have hst := heap_set hg9 33 (.bool L)
  rw [fragA_last _ _ HK.out] at hst
  have hs10 : Spares (fun x => x = q) v9 (v9.setCell ⟨q, 33, none⟩ (.bool L)) := Spares.setCell (F := fun b => b = q) (Spares.refl _ v9) (p := ⟨q, 33, none⟩) (.inl rfl) _
  obtain ⟨v10, hv10⟩ : ∃ v10, v9.setCell ⟨q, 33, none⟩ (.bool L) = v10 := ⟨_, rfl⟩
  rw [hv10] at hst hs10
  have HV10 := Lib.hid hv10
  have hr10 : IsFR (w.heap.size + 1) b (l.drop 41) v10 := by
    have := hr9.spares hs10 (fun h => by omega) (fun h => by have := HB.out; omega)
    simpa [List.drop_drop] using this
  have HR10 := Lib.hid hr10
  have HG10 := Lib.hid hst
  have HQ10 := Lib.hid (hs10.heap (hs9.heap HQ8.out (fun h => by omega)) (fun h => by omega))
  have HS10 := Lib.hid ((HS8.out.trans' hs9 (fun k hk => .inr (by omega))).trans' hs10 (fun k hk => .inr (by omega)))
  clear hr9 hs9 hg9 hst hs10 hv10 hr10 HR8 HG8 HQ8 HS8
  -- size
  obtain ⟨t3, ht3⟩ : ∃ t, sizeO l = t := ⟨_, rfl⟩
  have hl3 : t3 < 4294967296 := by rw [← ht3]; exact ofBE_lt4 _ (cutF_len _ _ _ (by have := HN.out; omega))
  have hw3 : IntKind.i64.wrap (t3 : Int) = (t3 : Int) := by rw [IntKind.wrap_i64]; omega
  have HT3 := Lib.hid ht3
  clear ht3
  go_wp2_with fail
  change Calls _ _ _ (v9.setCell ⟨q, 33, none⟩ (.bool L)) _
  rw [HV10.out]
  clear c9 z9
  refine (frNum_any _ b (l.drop 41) 4 v10 HR10.out (by have := HN.out; simp; omega) (by omega) (by have := HN.out; simp; omega)).mono ?_
  rintro e v11 ⟨rfl, hr11, hs11⟩
  rw [show ofBE ((l.drop 41).take 4) = t3 from HT3.out]
  have HR11 : Hid (IsFR (w.heap.size + 1) b (l.drop 45) v11) := Lib.hid (by simpa [List.drop_drop] using hr11)
  have HG11 := Lib.hid (hs11.heap HG10.out (fun h => by omega))
  have HQ11 := Lib.hid (hs11.heap HQ10.out (fun h => by omega))
  have HS11 := Lib.hid (HS10.out.trans' hs11 (fun k hk => .inr (by omega)))
  clear hr11 hs11 HR10 HG10 HQ10 HS10
  -- sum
  go_upto_region 12 with (fail)
  go_region_law
    (first
      | (go_simp
         go_at_call 30
         refine (frText_any _ b (l.drop 45) 32 _ (HR11.out.spares (F := nowhere) ((Spares.refl _ _).drew) (fun h => h) (fun h => h)) (by have := HN.out; simp; omega) (by have := HN.out; simp; omega)).mono ?_
         rintro e v12 ⟨o12, rfl, hb12, hr12, hs12⟩
         obtain ⟨v13, hrun, hg13, hs13⟩ := copy_sum (hs12.heap (o := .cells (fragA { K := cutF l 4 32, part := (t1 : Int), last := L, size := 0, S := List.replicate 32 0, turn := 0 }) 26 (0, 0)) HG11.out (fun h => by omega)) hb12 (by have := HN.out; simp; omega) HK.out rfl 32 32 3)
      | (refine step_copy_runI rfl _ _ 27 27 rfl (.slice (some ⟨q, 35, none⟩) 32 32) (.slice (some ⟨b, o12, none⟩) 32 32) (by rfl) (by rfl) hrun ?_))
  have hr13 : IsFR (w.heap.size + 1) b (l.drop 77) v13 := by
    have := hr12.spares hs13 (fun h => by omega) (fun h => by have := HB.out; omega)
    simpa [List.drop_drop] using this
  have HR13 := Lib.hid hr13
  have HG13 : Hid (v13.heap[q]? = some (.cells (fragA { K := cutF l 4 32, part := (t1 : Int), last := L, size := 0, S := cutF l 45 32, turn := 0 }) 26 (0, 0))) := Lib.hid hg13
  have HQ13 := Lib.hid (hs13.heap (hs12.heap (o := .cells (fragA zeroD) 26 (0, 0)) HQ11.out (fun h => by omega)) (fun h => by omega))
  have HS13 := Lib.hid (((HS11.out.drew).trans' hs12 (fun k hk => .inr (by omega))).trans' hs13 (fun k hk => .inr (by omega)))
  have HSL : Hid ((cutF l 45 32).length = 32) := Lib.hid (cutF_len _ _ _ (by have := HN.out; omega))
  clear hb12 hr12 hs12 hrun hg13 hs13 hr13 HR11 HG11 HQ11 HS11 ks
  -- turn
  obtain ⟨t4, ht4⟩ : ∃ t, ofBE (cutF l 77 8) = t := ⟨_, rfl⟩
  have HT4 := Lib.hid ht4
  clear ht4
  go_wp2_with fail
  refine (frNum_any _ b (l.drop 77) 8 v13 HR13.out (by have := HN.out; simp; omega) (by omega) (by have := HN.out; simp; omega)).mono ?_
  rintro e v14 ⟨rfl, hr14, hs14⟩
  rw [show ofBE ((l.drop 77).take 8) = t4 from HT4.out]
  have hg14 := hs14.heap HG13.out (fun h => by omega)
  have c14 := (frag_cells hg14 HK.out HSL.out).2.2.2.2.2
  have z14 : v14.frozen? ⟨q, 67, none⟩ = false := Lib.frozen_of_heap hg14 67
  have hst := heap_set hg14 67 (.int .u64 (t4 : Int))
  rw [fragA_turn _ _ HK.out HSL.out] at hst
  have hs15 : Spares (fun x => x = q) v14 (v14.setCell ⟨q, 67, none⟩ (.int .u64 (t4 : Int))) := Spares.setCell (F := fun b => b = q) (Spares.refl _ v14) (p := ⟨q, 67, none⟩) (.inl rfl) _
  obtain ⟨v15, hv15⟩ : ∃ v15, v14.setCell ⟨q, 67, none⟩ (.int .u64 (t4 : Int)) = v15 := ⟨_, rfl⟩
  rw [hv15] at hst hs15
  have HV15 := Lib.hid hv15
  have hr15 : IsFR (w.heap.size + 1) b (l.drop 85) v15 := by
    have := hr14.spares hs15 (fun h => by omega) (fun h => by have := HB.out; omega)
    simpa [List.drop_drop] using this
  have HR15 := Lib.hid hr15
  have HG15 := Lib.hid hst
  have HQ15 := Lib.hid (hs15.heap (hs14.heap HQ13.out (fun h => by omega)) (fun h => by omega))
  have HS15 := Lib.hid ((HS13.out.trans' hs14 (fun k hk => .inr (by omega))).trans' hs15 (fun k hk => .inr (by omega)))
  clear hr14 hs14 hg14 hst hs15 hv15 hr15 HR13 HG13 HQ13 HS13
  -- crc
  obtain ⟨t5, ht5⟩ : ∃ t, ofBE (cutF l 85 4) = t := ⟨_, rfl⟩
  have HT5 := Lib.hid ht5
  clear ht5
  go_wp2_with fail
  change Calls _ _ _ (v14.setCell ⟨q, 67, none⟩ (.int .u64 (t4 : Int))) _
  rw [HV15.out]
  clear c14 z14
  refine (frNum_any _ b (l.drop 85) 4 v15 HR15.out (by have := HN.out; simp; omega) (by omega) (by have := HN.out; simp; omega)).mono ?_
  rintro e v16 ⟨rfl, hr16, hs16⟩
  rw [show ofBE ((l.drop 85).take 4) = t5 from HT5.out]
  have hr16' : IsFR (w.heap.size + 1) b (l.drop 89) v16 := by simpa [List.drop_drop] using hr16
  have HR16 := Lib.hid hr16'
  have HG16 := Lib.hid (hs16.heap HG15.out (fun h => by omega))
  have HQ16 := Lib.hid (hs16.heap HQ15.out (fun h => by omega))
  have HS16 := Lib.hid (HS15.out.trans' hs16 (fun k hk => .inr (by omega)))
  obtain ⟨_, _, o16, d16, hh16, _, _⟩ := hr16'
  obtain ⟨N, hN16⟩ : ∃ N, (l.drop 89).length = N := ⟨_, rfl⟩
  rw [hN16] at hh16
  have hNl : N = n - 89 := by have := HN.out; rw [← hN16, List.length_drop]; omega
  have c16 : v16.cell? ⟨w.heap.size + 1, 0, none⟩ = some (.slice (some ⟨b, o16, none⟩) N d16) := by rw [Lib.cell_of_heap hh16]; rfl
  have hwN : IntKind.u64.wrap (N : Int) = (N : Int) := by rw [IntKind.wrap_u64]; omega
  clear hr16 hs16 HR15 HG15 HQ15 HS15 hh16 hN16
  obtain ⟨C, hC⟩ : ∃ C, crcF (l.take 85) = C := ⟨_, rfl⟩
  have hCl : C < 4294967296 := by rw [← hC]; unfold crcF; exact Nat.xor_lt_two_pow (n := 32) (by decide) (crcG_lt _)
  have hwC : IntKind.u64.wrap (C : Int) = (C : Int) := by rw [IntKind.wrap_u64]; omega
  have HC := Lib.hid hC
  clear hC
  have hbl : BytesAt v16 (some ⟨b, off, none⟩) (l.take 85) := bytesAt_takeF 85 (HL.out.spares HS16.out (fun _ _ _ h => h))
  have HCR := Lib.hid (crc_at (l.take 85) (some ⟨b, off, none⟩) 85 85 v16 (HT.out.spares HS16.out (fun h => h)) hbl (by have := HN.out; rw [List.length_take]; omega) (by rw [List.length_take]; omega))
  clear hbl
  go_wp2_with fail
  refine HCR.out.mono ?_
  rw [HC.out]
  rintro e v16' ⟨rfl, rfl⟩
  clear HCR
  -- the tests
  have hm2 : decide (l.take 4 = markL) = m := by rw [← HM.out, ← HX.out]; exact (mark_eq l).symm
  have HOK : Hid (headOK l = (m && (decide (t5 = C) && (decide (t2 ≤ 1) && (decide (t3 ≤ 4096) && decide (t3 ≤ N)))))) := Lib.hid (by
    unfold headOK
    rw [hm2, HT5.out, HC.out, HT2.out, HT3.out, ← HN.out, hNl])
  have HBAD : Hid ((m && (decide (t5 = C) && (decide (t2 ≤ 1) && (decide (t3 ≤ 4096) && decide (t3 ≤ N))))) = false → openOK l = false) := Lib.hid (fun h => by
    unfold openOK
    rw [HOK.out, h]
    simp)
  obtain ⟨h1, h2, h3⟩ := frag_stored (G := zeroD) HQ16.out rfl rfl rfl rfl
  have HT0 := Lib.hid h1
  have HQ0 := Lib.hid h2
  have HS0 := Lib.hid (HS16.out.trans' h3 (fun k hk => .inr (by omega)))
  have HI := Lib.hid (sizeFrag zeroD rfl rfl)
  have HNL := Lib.hid hNl
  have hNb : N ≤ 140737488351232 := by omega
  clear hm2 h1 h2 h3 hNl
  cases m with
  | false =>
    go_wp2_with ((with_reducible show wpList _ _ _ (⟨none, .store 26 _ _, _, _, _, _⟩ :: _) _ _); refine wpList_store_mid rfl 26 (.tmp 2) (.tmp 69) rfl w.heap.size 0 (fragA zeroD) rfl rfl HT0.out HI.out (fragA_one _) ?_)
    exact bodyPost_ret (v := .tuple #[.agg (fragA zeroD), .slice none 0 0, .int .i64 40]) (results_cell_three rfl _ _ w.heap.size 26 (fragA zeroD) (0, 0) _ (.slice none 0 0) (.int .i64 40) rfl rfl rfl HQ0.out Tryd.underlying26 (by rfl) HI.out) rfl (open_bad (HBAD.out (by simp)) rfl HS0.out)
  | true =>
    by_cases g5 : t5 = C
    case neg =>
      have g5b : ((t5 : Int) == (C : Int)) = false := by simp; omega
      have HBAD : Hid (openOK l = false) := Lib.hid (HBAD.out (by simp [g5]))
      clear g5
      go_wp2_with ((with_reducible show wpList _ _ _ (⟨none, .store 26 _ _, _, _, _, _⟩ :: _) _ _); refine wpList_store_mid rfl 26 (.tmp 2) (.tmp 69) rfl w.heap.size 0 (fragA zeroD) rfl rfl HT0.out HI.out (fragA_one _) ?_)
      exact bodyPost_ret (v := .tuple #[.agg (fragA zeroD), .slice none 0 0, .int .i64 40]) (results_cell_three rfl _ _ w.heap.size 26 (fragA zeroD) (0, 0) _ (.slice none 0 0) (.int .i64 40) rfl rfl rfl HQ0.out Tryd.underlying26 (by rfl) HI.out) rfl (open_bad HBAD.out rfl HS0.out)
    have g5b : ((t5 : Int) == (C : Int)) = true := by simp; omega
    by_cases g2 : t2 ≤ 1
    case neg =>
      have g2b : (1 : Int) < (t2 : Int) := by omega
      have HBAD : Hid (openOK l = false) := Lib.hid (HBAD.out (by simp [g2]))
      clear g5 g2
      go_wp2_with ((with_reducible show wpList _ _ _ (⟨none, .store 26 _ _, _, _, _, _⟩ :: _) _ _); refine wpList_store_mid rfl 26 (.tmp 2) (.tmp 69) rfl w.heap.size 0 (fragA zeroD) rfl rfl HT0.out HI.out (fragA_one _) ?_)
      exact bodyPost_ret (v := .tuple #[.agg (fragA zeroD), .slice none 0 0, .int .i64 40]) (results_cell_three rfl _ _ w.heap.size 26 (fragA zeroD) (0, 0) _ (.slice none 0 0) (.int .i64 40) rfl rfl rfl HQ0.out Tryd.underlying26 (by rfl) HI.out) rfl (open_bad HBAD.out rfl HS0.out)
    have g2b : ¬ (1 : Int) < (t2 : Int) := by omega
    by_cases g3 : t3 ≤ 4096
    case neg =>
      have g3b : (4096 : Int) < (t3 : Int) := by omega
      have HBAD : Hid (openOK l = false) := Lib.hid (HBAD.out (by simp [g3]))
      clear g5 g2 g3
      go_wp2_with ((with_reducible show wpList _ _ _ (⟨none, .store 26 _ _, _, _, _, _⟩ :: _) _ _); refine wpList_store_mid rfl 26 (.tmp 2) (.tmp 69) rfl w.heap.size 0 (fragA zeroD) rfl rfl HT0.out HI.out (fragA_one _) ?_)
      exact bodyPost_ret (v := .tuple #[.agg (fragA zeroD), .slice none 0 0, .int .i64 40]) (results_cell_three rfl _ _ w.heap.size 26 (fragA zeroD) (0, 0) _ (.slice none 0 0) (.int .i64 40) rfl rfl rfl HQ0.out Tryd.underlying26 (by rfl) HI.out) rfl (open_bad HBAD.out rfl HS0.out)
    have g3b : ¬ (4096 : Int) < (t3 : Int) := by omega
    by_cases g4 : t3 ≤ N
    case neg =>
      have g4b : (N : Int) < (t3 : Int) := by omega
      have HBAD : Hid (openOK l = false) := Lib.hid (HBAD.out (by simp [g4]))
      clear g5 g2 g3 g4
      go_wp2_with ((with_reducible show wpList _ _ _ (⟨none, .store 26 _ _, _, _, _, _⟩ :: _) _ _); refine wpList_store_mid rfl 26 (.tmp 2) (.tmp 69) rfl w.heap.size 0 (fragA zeroD) rfl rfl HT0.out HI.out (fragA_one _) ?_)
      exact bodyPost_ret (v := .tuple #[.agg (fragA zeroD), .slice none 0 0, .int .i64 40]) (results_cell_three rfl _ _ w.heap.size 26 (fragA zeroD) (0, 0) _ (.slice none 0 0) (.int .i64 40) rfl rfl rfl HQ0.out Tryd.underlying26 (by rfl) HI.out) rfl (open_bad HBAD.out rfl HS0.out)
    have g4b : ¬ (N : Int) < (t3 : Int) := by omega
    have HOK2 : Hid (headOK l = true) := Lib.hid (by rw [HOK.out]; simp [g5, g2, g3, g4])
    have hg16 := HG16.out
    have c34 := (frag_cells hg16 HK.out HSL.out).2.2.2.1
    have z34 : v16.frozen? ⟨q, 34, none⟩ = false := Lib.frozen_of_heap hg16 34
    have hst := heap_set hg16 34 (.int .i64 (t3 : Int))
    rw [fragA_sz _ _ HK.out] at hst
    have hs17 : Spares (fun x => x = q) v16 (v16.setCell ⟨q, 34, none⟩ (.int .i64 (t3 : Int))) := Spares.setCell (F := fun b => b = q) (Spares.refl _ v16) (p := ⟨q, 34, none⟩) (.inl rfl) _
    obtain ⟨v17, hv17⟩ : ∃ v17, v16.setCell ⟨q, 34, none⟩ (.int .i64 (t3 : Int)) = v17 := ⟨_, rfl⟩
    rw [hv17] at hst hs17
    have HV17 := Lib.hid hv17
    have HD : Hid (readD l = { K := cutF l 4 32, part := (t1 : Int), last := L, size := (t3 : Int), S := cutF l 45 32, turn := t4 }) := Lib.hid (by
      unfold readD
      rw [HT1.out, HT2.out, HT3.out, HT4.out, HLL.out])
    have hst' : v17.heap[q]? = some (.cells (fragA (readD l)) 26 (0, 0)) := by rw [HD.out]; exact hst
    have c17 := (frag_cells hst HK.out HSL.out).2.2.2.1
    have HR17 := Lib.hid (HR16.out.spares hs17 (fun h => by omega) (fun h => by have := HB.out; omega))
    have HG17 := Lib.hid hst'
    have HQ17 := Lib.hid (hs17.heap HQ16.out (fun h => by omega))
    have HS17 := Lib.hid (HS16.out.trans' hs17 (fun k hk => .inr (by omega)))
    clear hg16 hst hst' hs17 hv17 HR16 HG16 HQ16 HS16 HT0 HQ0 HS0 HBAD HOK g5 g2 g3
    go_upto_region 18 with (fail)
    change Code.wp _ _ _ _ (v16.setCell ⟨q, 34, none⟩ (.int .i64 (t3 : Int)))
    rw [HV17.out]
    clear c34 z34 c16
    go_wp2_with fail
    refine (frText_any _ b (l.drop 89) t3 v17 HR17.out (by have := HN.out; have := HNL.out; simp; omega) (by have := HN.out; simp; omega)).mono ?_
    rintro e v18 ⟨o18, rfl, hb18, hr18, hs18⟩
    have HPL : Hid (((l.drop 89).take t3).length = t3) := Lib.hid (by have := HN.out; have := HNL.out; simp; omega)
    have HCL := Lib.hid (bytesClone_any ((l.drop 89).take t3) ⟨b, o18, none⟩ t3 t3 v18 hb18 HPL.out.symm (by rw [HPL.out]; omega))
    have HG18 := Lib.hid (hs18.heap HG17.out (fun h => by omega))
    have HQ18 := Lib.hid (hs18.heap HQ17.out (fun h => by omega))
    have HS18 := Lib.hid (HS17.out.trans' hs18 (fun k hk => .inr (by omega)))
    clear hb18 hr18 hs18 HR17 HG17 HQ17 HS17 c17
    go_wp2_with fail
    refine HCL.out.mono ?_
    rintro e v19 ⟨a19, c19, rfl, ho19, hs19⟩
    rw [HPL.out]
    obtain ⟨Y, hY⟩ : ∃ Y, (l.drop 89).take t3 = Y := ⟨_, rfl⟩
    have hYl : Y.length = t3 := by rw [← hY]; exact HPL.out
    rw [hY, hYl] at ho19
    obtain ⟨a19', c19', e19, _, _, hc19⟩ := Row8.shape (B := 0) (show Row8 0 v19 _ Y from ho19)
    injection e19 with e1 e2 e3
    subst e1; subst e3
    rw [hYl] at hc19
    clear e2
    have HYY : Hid (cutF l 89 (sizeO l) = Y) := Lib.hid (by rw [HT3.out]; exact hY)
    have HYL := Lib.hid hYl
    have HO19 := Lib.hid ho19
    have HG19 := Lib.hid (hs19.heap HG18.out (fun h => h))
    have HQ19 := Lib.hid (hs19.heap HQ18.out (fun h => h))
    have HS19 := Lib.hid (HS18.out.trans hs19)
    clear ho19 hs19 HCL HG18 HQ18 HS18 hY hYl
    go_upto_region 19 with (fail)
    obtain ⟨R, hR⟩ : ∃ R, shaF Y = R := ⟨_, rfl⟩
    have hRl : R.length = 32 := by rw [← hR]; exact shaF_len Y
    obtain ⟨SS, hSS⟩ : ∃ SS, cutF l 45 32 = SS := ⟨_, rfl⟩
    have hSl : SS.length = 32 := by rw [← hSS]; exact HSL.out
    have hcmp := key_equal R SS hRl hSl
    obtain ⟨ne, hne⟩ : ∃ ne : Bool, (!decide (R = SS)) = ne := ⟨_, rfl⟩
    have HKEEP : Hid (∀ W, Spares nowhere v19 W → BytesAt W a19 Y ∧ W.rangeAt q 35 (Lib.byteCells SS)) := Lib.hid (fun W hW => by
      refine ⟨(HO19.out.spares hW (fun _ _ h => h)).bytes.1, ?_⟩
      have := (frag_cells (hW.heap HG19.out (fun h => h)) HK.out HSL.out).2.2.2.2.1
      rw [show (readD l).S = SS from hSS] at this
      exact this.range)
    have hsb := sum_any a19 t3 c19 Y
    have HSB : Hid (∀ W, Spares nowhere v19 W → Calls Tryd.prog 23 #[.slice a19 t3 c19] W fun e w' => e = .returned (.agg (bytesV R)) ∧ Spares nowhere W w') := Lib.hid (fun W hW => by
      have := hsb W (HKEEP.out W hW).1 HYL.out.symm (by omega) hc19
      rw [hR] at this
      exact this)
    have infoC : (Tryd.prog.info? 23).map (·.size) = some (Lib.byteCells SS).length := by rw [byteCells_len, hSl]; exact infoKey
    have HIC := Lib.hid infoC
    have HRR := Lib.hid hR
    have HSS := Lib.hid hSS
    clear hsb infoC hR hSS
    refine wp_region_quiet (C := fun W => Spares nowhere v19 W) (by kernel_rfl) (by kernel_rfl) (Spares.refl nowhere v19).drew ?_
    refine wpQuiet_step (fun K hK => ?_)
    refine quiet_if (.slice a19 t3 c19) (by rfl) (fun W hW => ?_) ?_
    · exact ⟨rfl, rfl⟩
    go_simp
    refine hK _ ?_
    clear hK K
    refine wpQuiet_step (fun K hK => ?_)
    refine quiet_if (.agg (bytesV R)) (by rfl) (fun W hW => ?_) ?_
    · go_simp
      refine (HSB.out W hW).mono ?_
      rintro e W' ⟨rfl, h⟩
      exact ⟨rfl, hW.trans h⟩
    go_simp
    refine hK _ ?_
    clear hK K
    refine wpQuiet_step (fun K hK => ?_)
    refine quiet_if (.pointer (some ⟨q, 35, none⟩)) (by rfl) (fun W hW => ?_) ?_
    · exact ⟨rfl, rfl⟩
    go_simp
    refine hK _ ?_
    clear hK K
    refine wpQuiet_step (fun K hK => ?_)
    refine quiet_if (.agg (bytesV SS)) (by rfl) (fun W hW => ?_) ?_
    · exact quiet_load 23 (.tmp 79) rfl q 35 rfl (Lib.byteCells SS) _ W (HKEEP.out W hW).2 Tryd.underlying23 rfl HIC.out
    go_simp
    refine hK _ ?_
    clear hK K
    refine wpQuiet_step (fun K hK => ?_)
    refine quiet_if (.bool ne) (by rfl) (fun W hW => ?_) ?_
    · have h1 := hcmp W
      rw [← hne]
      go_simp
    go_simp
    refine hK _ ?_
    clear hK K
    refine wpQuiet_nil (fun W hW => ?_)
    have hgW := hW.heap HG19.out (fun h => h)
    have hqW := hW.heap HQ19.out (fun h => h)
    have HSW := Lib.hid (HS19.out.trans hW)
    have HOW := Lib.hid (HO19.out.spares hW (fun _ _ h => h))
    clear hW HKEEP HSB HIC HG19 HQ19 HS19 HO19 hcmp
    cases ne with
    | true =>
      have hRS : R ≠ SS := fun h => by rw [decide_eq_true h] at hne; cases hne
      have HBAD : Hid (openOK l = false) := Lib.hid (by
        unfold openOK
        rw [HYY.out, HRR.out, HSS.out, decide_eq_false hRS]
        simp)
      obtain ⟨h1, h2, h3⟩ := frag_stored (G := zeroD) hqW rfl rfl rfl rfl
      have HT0 := Lib.hid h1
      have HQ0 := Lib.hid h2
      have HS0 := Lib.hid (HSW.out.trans' h3 (fun k hk => .inr (by omega)))
      clear h1 h2 h3 hgW hqW hne hRS
      go_wp2_with ((with_reducible show wpList _ _ _ (⟨none, .store 26 _ _, _, _, _, _⟩ :: _) _ _); refine wpList_store_mid rfl 26 (.tmp 2) (.tmp 82) rfl w.heap.size 0 (fragA zeroD) rfl rfl HT0.out HI.out (fragA_one _) ?_)
      exact bodyPost_ret (v := .tuple #[.agg (fragA zeroD), .slice none 0 0, .int .i64 40]) (results_cell_three rfl _ _ w.heap.size 26 (fragA zeroD) (0, 0) _ (.slice none 0 0) (.int .i64 40) rfl rfl rfl HQ0.out Tryd.underlying26 (by rfl) HI.out) rfl (open_bad HBAD.out rfl HS0.out)
    | false =>
      have hRS : R = SS := by
        by_cases h : R = SS
        · exact h
        · rw [decide_eq_false h] at hne; cases hne
      have HGOOD : Hid (openOK l = true) := Lib.hid (by
        unfold openOK
        rw [HYY.out, HRR.out, HSS.out, decide_eq_true hRS, HOK2.out, decide_eq_true (by have := HN.out; omega)]
        rfl)
      have hrl : (readD l).K.length = 32 ∧ (readD l).S.length = 32 := ⟨HK.out, HSL.out⟩
      obtain ⟨h1, h2, h3⟩ := frag_stored (G := readD l) hqW rfl rfl hrl.1 hrl.2
      have HT0 := Lib.hid h1
      have HQ0 := Lib.hid h2
      have HS0 := Lib.hid (HSW.out.trans' h3 (fun k hk => .inr (by omega)))
      have HI2 := Lib.hid (sizeFrag (readD l) hrl.1 hrl.2)
      have HGW := Lib.hid hgW
      have HBY := Lib.hid ((HOW.out.spares h3 (fun g hg e => by
        obtain ⟨cs, hcs⟩ := HOW.out.kind g hg
        rw [e, hqW] at hcs
        injection hcs with hcs
        injection hcs with _ hcs _
        exact absurd hcs (by decide))).bytes)
      clear h1 h2 h3 hgW hqW hne hRS hrl
      go_wp2_with (first
        | ((with_reducible show wpList _ _ _ (⟨some 83, .load 26 _, _, _, _, _⟩ :: _) _ _); refine wpList_load_row rfl 26 (.tmp 8) rfl q rfl 26 _ (0, 0) _ HGW.out Tryd.underlying26 rfl HI2.out ?_)
        | ((with_reducible show wpList _ _ _ (⟨none, .store 26 _ _, _, _, _, _⟩ :: _) _ _); refine wpList_store_mid rfl 26 (.tmp 2) (.tmp 83) rfl w.heap.size 0 (fragA (readD l)) rfl rfl HT0.out HI2.out (fragA_one _) ?_))
      exact bodyPost_ret (v := .tuple #[.agg (fragA (readD l)), .slice a19 t3 c19, .int .i64 0]) (results_cell_three rfl _ _ w.heap.size 26 (fragA (readD l)) (0, 0) _ (.slice a19 t3 c19) (.int .i64 0) rfl rfl rfl HQ0.out Tryd.underlying26 (by rfl) HI2.out) rfl (open_good (a := a19) (c := c19) HGOOD.out (by rw [HYY.out, HYL.out]) (by rw [HYY.out]; exact HBY.out.1) HBY.out.2 HS0.out)
end Go.Proofs.YtimpnnhadjfijaaDoor
