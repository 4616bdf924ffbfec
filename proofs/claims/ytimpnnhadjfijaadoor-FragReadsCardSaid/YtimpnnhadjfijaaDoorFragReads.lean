/-
  FragReads: any bytes, and a fragment's that are spoilt, are read as just the document's, or refused.
-/
import Derived.Test.YtimpnnhadjfijaaDoorFragBitsLaw
namespace Go.Proofs.YtimpnnhadjfijaaDoor
open Go.RowKit CrcMath

set_option maxHeartbeats 1000000 in
theorem bytes_any (x : List UInt8) (a b : Option Addr) (n m c d : Nat) (w : World) (hx : BytesAt w a x) (hy : BytesAt w b x) (hn : n = x.length) (hm : m = x.length) :
    Calls Tryd.prog 11 #[.slice a n c, .slice b m d] w fun e w' => e = .returned (.bool true) ∧ w = w' := by
  subst hn; subst hm
  have q1 := conv_bytes hx c
  have q2 := conv_bytes hy d
  clear hx hy
  go_enter Tryd.func11, Tryd.ntmps11
  go_wp2
  go_ret
  exact ⟨rfl, rfl⟩
theorem rem_nat (k n : Nat) : ((k : Int).tmod (n : Int)) = ((k % n : Nat) : Int) := by rw [Int.tmod_eq_emod_of_nonneg (by omega)]; simp
def RowOf (q : Nat) (v : World) (k : Nat) : Prop := ∃ A N C l, N = l.length ∧ N ≤ C ∧ N ≤ 140737488351232 ∧ ∀ W, Spares nowhere v W → W.cell? ⟨q, k, none⟩ = some (.slice A N C) ∧ BytesAt W A l

set_option maxRecDepth 100000 in
set_option maxHeartbeats 8000000 in
theorem reads_any (F : FragD) (a a' : Option Addr) (n c n' c' : Nat) (l l' : List UInt8) (at_ : Int) (xb : UInt8) (cut : Nat) (w : World) (hT : Steps w) (hK : F.K.length = 32) (hS : F.S.length = 32) (hl : BytesAt w a l) (hn : n = l.length) (hnil : a = none → c = 0) (hnc : n ≤ c) (hmax : n < 9223372036854775808)
    (hl' : BytesAt w a' l') (hn' : n' = l'.length) (hnc' : n' ≤ c') (hmax' : n' < 9223372036854775808) (h1 : -9223372036854775808 ≤ at_) (h2 : at_ < 9223372036854775808) (hcut : cut < 65536) :
    Calls Tryd.prog 4 #[.agg (fragA F), .slice a n c, .slice a' n' c', .int .i64 at_, .int .u8 xb.toNat, .int .u16 cut] w (Knows w) := by
  obtain ⟨P, hP, hPl⟩ := part_nat F.part
  obtain ⟨v1, hv1⟩ : ∃ v1, w.alloc (.cells (fragA F) 26) = v1 := ⟨_, rfl⟩
  have HV1 := Lib.hid hv1
  have hs1 : Spares nowhere w v1 := by rw [← hv1]; exact (Spares.refl _ w).alloc _
  have HG1 : Hid (v1.heap[w.heap.size]? = some (.cells (fragA F) 26 (0, 0))) := Lib.hid (by rw [← hv1]; exact heap_alloc_new w _)
  have HK1 := Lib.hid (known_any v1 (hT.spares hs1 (fun h => h)))
  have HS1 := Lib.hid hs1
  have HT := Lib.hid hT
  have HL := Lib.hid hl
  have HL' := Lib.hid hl'
  have HN := Lib.hid hn
  have HN' := Lib.hid hn'
  have HNIL := Lib.hid hnil
  have HK := Lib.hid hK
  have HS := Lib.hid hS
  have HI := Lib.hid (sizeFrag F hK hS)
  have HC := Lib.hid hcut
  clear hv1 hs1 hT hl hl' hn hn' hnil hK hS
  go_enter Tryd.func4, Tryd.ntmps4
  go_wp2_with fail
  change Calls _ _ _ (w.alloc (.cells (fragA F) 26)) _
  rw [HV1.out]
  refine HK1.out.mono ?_
  rintro e v2 ⟨rfl, hs2⟩
  have HS2 := Lib.hid (HS1.out.trans hs2)
  have HG2 := Lib.hid (hs2.heap HG1.out (fun h => h))
  clear hs2 HK1
  by_cases hbig : 500 < n
  · have i1 : (500 : Int) < (n : Int) := by omega
    have i1b : decide ((500 : Int) < (n : Int)) = true := decide_eq_true i1
    go_wp2
    go_ret
    exact ⟨rfl, HS2.out⟩
  have i1 : ¬ (500 : Int) < (n : Int) := by omega
  have i1b : decide ((500 : Int) < (n : Int)) = false := decide_eq_false i1
  by_cases hbig' : 500 < n'
  · have i2 : (500 : Int) < (n' : Int) := by omega
    have i2b : decide ((500 : Int) < (n' : Int)) = true := decide_eq_true i2
    go_wp2
    go_ret
    exact ⟨rfl, HS2.out⟩
  have i2 : ¬ (500 : Int) < (n' : Int) := by omega
  have i2b : decide ((500 : Int) < (n' : Int)) = false := decide_eq_false i2
  have HF := Lib.hid (frag_any F P n a n c l v2 (HT.out.spares HS2.out (fun h => h)) (HL.out.spares HS2.out (fun _ _ _ h => h)) HN.out HNIL.out hnc (by omega) HK.out HS.out hP (by omega))
  have hlen := fragB_len F.K P F.last F.turn l HK.out
  have htk : l.take n = l := List.take_of_length_le (by have := HN.out; omega)
  rw [htk] at HF
  obtain ⟨L, hL⟩ : ∃ L, fragB F.K P F.last F.turn l = L := ⟨_, rfl⟩
  rw [hL] at HF hlen
  obtain ⟨m, hm⟩ : ∃ m, L.length = m := ⟨_, rfl⟩
  have hm2 : m ≤ 589 := by have := HN.out; omega
  have hm3 : 89 ≤ m := by omega
  have i3 : ¬ (m : Int) < 89 := by omega
  have HM := Lib.hid hm
  clear hlen htk hL hm
  go_wp2_with ((with_reducible show wpList _ _ _ (⟨some 32, .load 26 _, _, _, _, _⟩ :: _) _ _); refine wpList_load_row rfl 26 (.tmp 6) rfl w.heap.size rfl 26 _ (0, 0) _ HG2.out Tryd.underlying26 rfl HI.out ?_)
  refine HF.out.mono ?_
  rintro e v3 ⟨a3, c3, rfl, ho3, hs3, hw3⟩
  obtain ⟨g, cs, rfl, hg3, hc3⟩ := own_at ho3 (by rw [HM.out]; omega)
  have hgw : w.heap.size ≤ g := Nat.le_trans HS2.out.size (hw3 g rfl)
  have hat3 := (ho3.bytes).1
  rw [HM.out] at hc3
  rw [HM.out]
  have hz3 := fun k => Lib.frozen_of_heap hg3 k
  have HS3 := Lib.hid (HS2.out.trans hs3)
  have HA3 := Lib.hid hat3
  have HZ3 := Lib.hid hz3
  clear ho3 hs3 hw3 hg3 hat3 hz3 HF HG2
  go_wp2_with fail
  refine (place_any at_ m v3 (by omega) (by omega) h1 h2).mono ?_
  rintro e v4 ⟨i, him, rfl, rfl⟩
  obtain ⟨x, hx⟩ : ∃ x, L[i]'(by rw [HM.out]; exact him) = x := ⟨_, rfl⟩
  obtain ⟨y, hy⟩ := xor_u8 x xb
  have hcx : v3.cell? ⟨g, i, none⟩ = some (.int .u8 x.toNat) := by
    obtain ⟨b', o', e, hc⟩ := HA3.out i (by rw [HM.out]; exact him)
    injection e with e; injection e with e1 e2 e3
    subst e1; subst e2
    rw [hx, Nat.zero_add] at hc
    exact hc
  have hzx : v3.frozen? ⟨g, i, none⟩ = false := HZ3.out i
  obtain ⟨v5, hv5⟩ : ∃ v5, v3.setCell ⟨g, i, none⟩ (.int .u8 (y.toNat : Int)) = v5 := ⟨_, rfl⟩
  have hs95 : Spares (fun b => b = g) v3 v5 := by rw [← hv5]; exact Spares.setCell (F := fun b => b = g) (Spares.refl _ v3) (p := ⟨g, i, none⟩) (.inl rfl) _
  obtain ⟨T, hTT⟩ : ∃ T, L.set i y = T := ⟨_, rfl⟩
  have HB5 : Hid (BytesAt v5 (some ⟨g, 0, none⟩) T) := Lib.hid (by
    have := bytesAt_set HA3.out (i := i) (by rw [HM.out]; exact him) y
    rw [Nat.zero_add, hv5, hTT] at this
    exact this)
  have HTL : Hid (T.length = m) := Lib.hid (by rw [← hTT, List.length_set]; exact HM.out)
  have HS5 := Lib.hid (HS3.out.trans' hs95 (fun b hb => .inr (by omega)))
  have HV5 := Lib.hid hv5
  have him2 : (i : Int) < (m : Int) := by omega
  have hx256 := x.toNat_lt
  have hxb := xb.toNat_lt
  clear hs95 hv5 hTT hx HA3 HZ3
  go_upto_region 9 with (fail)
  change Code.wp _ _ _ _ (v3.setCell ⟨g, i, none⟩ (.int .u8 (y.toNat : Int)))
  rw [HV5.out]
  clear hcx hzx hy him2 hx256 hxb him
  obtain ⟨r3, hr3⟩ : ∃ r, cut % 3 = r := ⟨_, rfl⟩
  have q1 : (cut : Int).tmod 3 = (r3 : Int) := by rw [← hr3]; exact rem_nat cut 3
  have q2 : (cut : Int) % 3 = (r3 : Int) := by omega
  have q5 : r3 < 3 := by omega
  by_cases h30 : r3 = 0
  · have q3 : ((r3 : Int) == 0) = true := by simp; omega
    obtain ⟨K, hKe⟩ : ∃ K, cut % (m + 1) = K := ⟨_, rfl⟩
    have hKm : K ≤ m := by have := Nat.mod_lt cut (show 0 < m + 1 by omega); omega
    have t0 := rem_nat cut (m + 1)
    rw [hKe] at t0
    have t1 : (cut : Int).tmod ((m : Int) + 1) = (K : Int) := by rw [← t0]; rfl
    have t2 : (cut : Int) % ((m : Int) + 1) = (K : Int) := by rw [← t1, Int.tmod_eq_emod_of_nonneg (by omega)]
    have t3 : (K : Int) ≤ (c3 : Int) := by omega
    have hc16 := HC.out
    have t4 : IntKind.i64.wrap (cut : Int) = (cut : Int) := by rw [IntKind.wrap_i64]; omega
    clear hr3 hKe t0 h30
    have HBK : Hid (BytesAt v5 (some ⟨g, 0, none⟩) (T.take K)) := Lib.hid (bytesAt_takeF K HB5.out)
    have HKL : Hid (K = (T.take K).length) := Lib.hid (by rw [List.length_take, HTL.out]; omega)
    obtain ⟨q, hq⟩ : ∃ q, v5.heap.size = q := ⟨_, rfl⟩
    obtain ⟨v6, hv6⟩ : ∃ v6, v5.alloc (.cells #[.slice (some ⟨g, 0, none⟩) K c3, .slice a' n' c'] 27) = v6 := ⟨_, rfl⟩
    have hs6 : Spares nowhere v5 v6 := by rw [← hv6]; exact (Spares.refl _ v5).alloc _
    have hg6 : v6.heap[q]? = some (.cells #[.slice (some ⟨g, 0, none⟩) K c3, .slice a' n' c'] 27 (0, 0)) := by rw [← hv6, ← hq]; exact heap_alloc_new v5 _
    have HROW : Hid (∀ k, k < 2 → RowOf q v6 k) := Lib.hid (fun k hk => by
      obtain rfl | rfl : k = 0 ∨ k = 1 := by omega
      · exact ⟨some ⟨g, 0, none⟩, K, c3, (T.take K), HKL.out, by omega, by omega, fun W hW => ⟨by rw [Lib.cell_of_heap (hW.heap hg6 (fun h => h))]; rfl, HBK.out.spares (hs6.trans hW) (fun _ _ _ h => h)⟩⟩
      · exact ⟨a', n', c', l', HN'.out, hnc', by omega, fun W hW => ⟨by rw [Lib.cell_of_heap (hW.heap hg6 (fun h => h))]; rfl, (HL'.out.spares HS5.out (fun _ _ _ h => h)).spares (hs6.trans hW) (fun _ _ _ h => h)⟩⟩)
    have HS6 := Lib.hid (HS5.out.trans hs6)
    have HV6 := Lib.hid hv6
    clear hs6 hg6 hv6
    go_upto_region 12 with (fail)
    change Code.wp _ _ _ _ (v5.alloc (.cells #[.slice (some ⟨g, 0, none⟩) K c3, .slice a' n' c'] 27))
    rw [HV6.out]
    clear hq t1 t2 t3 t4 q1 q2 q3 q5
    go_wp2
    go_loopw [15] (fun i wr => ∃ k : Nat, k ≤ 2 ∧ i = .int .i64 k ∧ Hid (Spares nowhere v6 wr)) (fun i _ => 2 - (intOf i).toNat)
    case atStart => exact ⟨0, by omega, rfl, Lib.hid (Spares.refl _ _)⟩
    case round =>
      obtain ⟨k, hk, rfl, HW⟩ := hrel
      by_cases hlt : k < 2
      · obtain ⟨A, N, C, l0, hNl, hNC, hNm, hrow⟩ := HROW.out k hlt
        have HRW := Lib.hid hrow
        have HNL := Lib.hid hNl
        have HSW := Lib.hid (HS6.out.trans HW.out)
        have i4 : (k : Int) < 2 := by omega
        have hDl := openD_len l0
        have hcell := (hrow wr HW.out).1
        clear hrow hNl
        go_wp2_with fail
        refine (openFrag_any A N C l0 wr (HT.out.spares HSW.out (fun h => h)) (HRW.out wr HW.out).2 HNL.out hNC hNm).mono ?_
        rintro e v7 ⟨a7, c7, rfl, hb7, _, hs7⟩
        obtain ⟨E, hE⟩ : ∃ E, openE l0 = E := ⟨_, rfl⟩
        rw [hE]
        obtain ⟨Y, hY⟩ : ∃ Y, (openP l0).length = Y := ⟨_, rfl⟩
        rw [hY]
        have HE := Lib.hid hE
        have HY := Lib.hid hY
        obtain ⟨d1, d2, d3⟩ := frag_new (w := v7) (G := openD l0) hDl.1 hDl.2
        obtain ⟨q7, hq7⟩ : ∃ q, v7.heap.size = q := ⟨_, rfl⟩
        obtain ⟨v8, hv8⟩ : ∃ v8, (v7.alloc (.cells (fragA zeroD) 26)).setCells q7 0 (fragA (openD l0)).toList = v8 := ⟨_, rfl⟩
        rw [hq7] at d1 d2 d3
        rw [hv8] at d2 d3
        have HV8 := Lib.hid hv8
        have HT8 := Lib.hid d1
        have HG8 := Lib.hid d2
        have HS8 := Lib.hid ((HW.out.trans hs7).trans d3)
        have HB8 := Lib.hid ((hb7.spares d3 (fun _ _ _ h => h)))
        have HID := Lib.hid (sizeFrag (openD l0) hDl.1 hDl.2)
        clear hcell hb7 hs7 d1 d2 d3 hv8 hE hY
        go_upto_region 16 with ((with_reducible show wpList _ _ _ (⟨none, .store 26 _ _, _, _, _, _⟩ :: _) _ _); refine wpList_store_mid rfl 26 (.tmp 16) (.tmp 72) rfl q7 0 (fragA (openD l0)) rfl rfl HT8.out HID.out (fragA_one _) ?_)
        change Code.wp _ _ _ _ ((v7.alloc (.cells (fragA zeroD) 26)).setCells q7 0 (fragA (openD l0)).toList)
        rw [HV8.out]
        clear hq7 HV8 HT8
        have hcell8 := (HRW.out v8 HS8.out).1
        go_wp2_with fail
        refine (refOpenFrag_any A N C l0 v8 (HRW.out v8 HS8.out).2 HNL.out hNC hNm).mono ?_
        rintro e v9 ⟨a9, c9, rfl, hb9, _, hs9⟩
        rw [HE.out, HY.out]
        obtain ⟨d1, d2, d3⟩ := frag_new (w := v9) (G := openD l0) hDl.1 hDl.2
        obtain ⟨q9, hq9⟩ : ∃ q, v9.heap.size = q := ⟨_, rfl⟩
        obtain ⟨v10, hv10⟩ : ∃ v10, (v9.alloc (.cells (fragA zeroD) 26)).setCells q9 0 (fragA (openD l0)).toList = v10 := ⟨_, rfl⟩
        rw [hq9] at d1 d2 d3
        rw [hv10] at d2 d3
        have HV10 := Lib.hid hv10
        have HT10 := Lib.hid d1
        have HG10 := Lib.hid d2
        have HG10b := Lib.hid (d3.heap (hs9.heap HG8.out (fun h => h)) (fun h => h))
        have HS10 := Lib.hid ((HS8.out.trans hs9).trans d3)
        have HB10 := Lib.hid (hb9.spares d3 (fun _ _ _ h => h))
        have HB10b := Lib.hid ((HB8.out.spares hs9 (fun _ _ _ h => h)).spares d3 (fun _ _ _ h => h))
        have HSM := Lib.hid (same_any (openD l0) v10 hDl.1 hDl.2)
        have hEE : (E != E) = false := by simp
        clear hcell8 hb9 hs9 d1 d2 d3 hv10 HG8 HB8
        go_upto_region 17 with ((with_reducible show wpList _ _ _ (⟨none, .store 26 _ _, _, _, _, _⟩ :: _) _ _); refine wpList_store_mid rfl 26 (.tmp 19) (.tmp 81) rfl q9 0 (fragA (openD l0)) rfl rfl HT10.out HID.out (fragA_one _) ?_)
        change Code.wp _ _ _ _ ((v9.alloc (.cells (fragA zeroD) 26)).setCells q9 0 (fragA (openD l0)).toList)
        rw [HV10.out]
        clear hq9 HV10 HT10
        go_wp2_with (first
          | ((with_reducible show wpList _ _ _ (⟨some 88, .load 26 _, _, _, _, _⟩ :: _) _ _); refine wpList_load_rowG (by rfl) 26 (.tmp 16) rfl q7 rfl 26 _ (0, 0) _ HG10b.out Tryd.underlying26 rfl HID.out ?_)
          | ((with_reducible show wpList _ _ _ (⟨some 89, .load 26 _, _, _, _, _⟩ :: _) _ _); refine wpList_load_rowG (by rfl) 26 (.tmp 19) rfl q9 rfl 26 _ (0, 0) _ HG10.out Tryd.underlying26 rfl HID.out ?_)
          | fail)
        refine HSM.out.mono ?_
        rintro e v11 ⟨rfl, hs11⟩
        have HBY := Lib.hid (bytes_any (openP l0) a7 a9 Y Y c7 c9 v11 (HB10b.out.spares hs11 (fun _ _ _ h => h)) (HB10.out.spares hs11 (fun _ _ _ h => h)) HY.out.symm HY.out.symm)
        have HS11 := Lib.hid (HS10.out.trans hs11)
        clear hs11 HSM HB10 HB10b HG10 HG10b
        go_wp2_with fail
        refine HBY.out.mono ?_
        rintro e v12 ⟨rfl, rfl⟩
        go_wp2
        go_roundw
        case rel => exact ⟨k + 1, by omega, by go_num, HS11⟩
        case measure => simp [intOf]; omega
      · obtain rfl : k = 2 := by omega
        go_wp2
        go_ret
        exact ⟨rfl, HS6.out.trans HW.out⟩
  · have q3 : ((r3 : Int) == 0) = false := by simp; omega
    clear hr3 h30
    have HBK : Hid (BytesAt v5 (some ⟨g, 0, none⟩) T) := Lib.hid (HB5.out)
    have HKL : Hid (m = T.length) := Lib.hid (HTL.out.symm)
    obtain ⟨q, hq⟩ : ∃ q, v5.heap.size = q := ⟨_, rfl⟩
    obtain ⟨v6, hv6⟩ : ∃ v6, v5.alloc (.cells #[.slice (some ⟨g, 0, none⟩) m c3, .slice a' n' c'] 27) = v6 := ⟨_, rfl⟩
    have hs6 : Spares nowhere v5 v6 := by rw [← hv6]; exact (Spares.refl _ v5).alloc _
    have hg6 : v6.heap[q]? = some (.cells #[.slice (some ⟨g, 0, none⟩) m c3, .slice a' n' c'] 27 (0, 0)) := by rw [← hv6, ← hq]; exact heap_alloc_new v5 _
    have HROW : Hid (∀ k, k < 2 → RowOf q v6 k) := Lib.hid (fun k hk => by
      obtain rfl | rfl : k = 0 ∨ k = 1 := by omega
      · exact ⟨some ⟨g, 0, none⟩, m, c3, T, HKL.out, hc3, by omega, fun W hW => ⟨by rw [Lib.cell_of_heap (hW.heap hg6 (fun h => h))]; rfl, HBK.out.spares (hs6.trans hW) (fun _ _ _ h => h)⟩⟩
      · exact ⟨a', n', c', l', HN'.out, hnc', by omega, fun W hW => ⟨by rw [Lib.cell_of_heap (hW.heap hg6 (fun h => h))]; rfl, (HL'.out.spares HS5.out (fun _ _ _ h => h)).spares (hs6.trans hW) (fun _ _ _ h => h)⟩⟩)
    have HS6 := Lib.hid (HS5.out.trans hs6)
    have HV6 := Lib.hid hv6
    clear hs6 hg6 hv6
    go_upto_region 12 with (fail)
    change Code.wp _ _ _ _ (v5.alloc (.cells #[.slice (some ⟨g, 0, none⟩) m c3, .slice a' n' c'] 27))
    rw [HV6.out]
    clear hq q1 q2 q3 q5
    go_wp2
    go_loopw [15] (fun i wr => ∃ k : Nat, k ≤ 2 ∧ i = .int .i64 k ∧ Hid (Spares nowhere v6 wr)) (fun i _ => 2 - (intOf i).toNat)
    case atStart => exact ⟨0, by omega, rfl, Lib.hid (Spares.refl _ _)⟩
    case round =>
      obtain ⟨k, hk, rfl, HW⟩ := hrel
      by_cases hlt : k < 2
      · obtain ⟨A, N, C, l0, hNl, hNC, hNm, hrow⟩ := HROW.out k hlt
        have HRW := Lib.hid hrow
        have HNL := Lib.hid hNl
        have HSW := Lib.hid (HS6.out.trans HW.out)
        have i4 : (k : Int) < 2 := by omega
        have hDl := openD_len l0
        have hcell := (hrow wr HW.out).1
        clear hrow hNl
        go_wp2_with fail
        refine (openFrag_any A N C l0 wr (HT.out.spares HSW.out (fun h => h)) (HRW.out wr HW.out).2 HNL.out hNC hNm).mono ?_
        rintro e v7 ⟨a7, c7, rfl, hb7, _, hs7⟩
        obtain ⟨E, hE⟩ : ∃ E, openE l0 = E := ⟨_, rfl⟩
        rw [hE]
        obtain ⟨Y, hY⟩ : ∃ Y, (openP l0).length = Y := ⟨_, rfl⟩
        rw [hY]
        have HE := Lib.hid hE
        have HY := Lib.hid hY
        obtain ⟨d1, d2, d3⟩ := frag_new (w := v7) (G := openD l0) hDl.1 hDl.2
        obtain ⟨q7, hq7⟩ : ∃ q, v7.heap.size = q := ⟨_, rfl⟩
        obtain ⟨v8, hv8⟩ : ∃ v8, (v7.alloc (.cells (fragA zeroD) 26)).setCells q7 0 (fragA (openD l0)).toList = v8 := ⟨_, rfl⟩
        rw [hq7] at d1 d2 d3
        rw [hv8] at d2 d3
        have HV8 := Lib.hid hv8
        have HT8 := Lib.hid d1
        have HG8 := Lib.hid d2
        have HS8 := Lib.hid ((HW.out.trans hs7).trans d3)
        have HB8 := Lib.hid ((hb7.spares d3 (fun _ _ _ h => h)))
        have HID := Lib.hid (sizeFrag (openD l0) hDl.1 hDl.2)
        clear hcell hb7 hs7 d1 d2 d3 hv8 hE hY
        go_upto_region 16 with ((with_reducible show wpList _ _ _ (⟨none, .store 26 _ _, _, _, _, _⟩ :: _) _ _); refine wpList_store_mid rfl 26 (.tmp 16) (.tmp 72) rfl q7 0 (fragA (openD l0)) rfl rfl HT8.out HID.out (fragA_one _) ?_)
        change Code.wp _ _ _ _ ((v7.alloc (.cells (fragA zeroD) 26)).setCells q7 0 (fragA (openD l0)).toList)
        rw [HV8.out]
        clear hq7 HV8 HT8
        have hcell8 := (HRW.out v8 HS8.out).1
        go_wp2_with fail
        refine (refOpenFrag_any A N C l0 v8 (HRW.out v8 HS8.out).2 HNL.out hNC hNm).mono ?_
        rintro e v9 ⟨a9, c9, rfl, hb9, _, hs9⟩
        rw [HE.out, HY.out]
        obtain ⟨d1, d2, d3⟩ := frag_new (w := v9) (G := openD l0) hDl.1 hDl.2
        obtain ⟨q9, hq9⟩ : ∃ q, v9.heap.size = q := ⟨_, rfl⟩
        obtain ⟨v10, hv10⟩ : ∃ v10, (v9.alloc (.cells (fragA zeroD) 26)).setCells q9 0 (fragA (openD l0)).toList = v10 := ⟨_, rfl⟩
        rw [hq9] at d1 d2 d3
        rw [hv10] at d2 d3
        have HV10 := Lib.hid hv10
        have HT10 := Lib.hid d1
        have HG10 := Lib.hid d2
        have HG10b := Lib.hid (d3.heap (hs9.heap HG8.out (fun h => h)) (fun h => h))
        have HS10 := Lib.hid ((HS8.out.trans hs9).trans d3)
        have HB10 := Lib.hid (hb9.spares d3 (fun _ _ _ h => h))
        have HB10b := Lib.hid ((HB8.out.spares hs9 (fun _ _ _ h => h)).spares d3 (fun _ _ _ h => h))
        have HSM := Lib.hid (same_any (openD l0) v10 hDl.1 hDl.2)
        have hEE : (E != E) = false := by simp
        clear hcell8 hb9 hs9 d1 d2 d3 hv10 HG8 HB8
        go_upto_region 17 with ((with_reducible show wpList _ _ _ (⟨none, .store 26 _ _, _, _, _, _⟩ :: _) _ _); refine wpList_store_mid rfl 26 (.tmp 19) (.tmp 81) rfl q9 0 (fragA (openD l0)) rfl rfl HT10.out HID.out (fragA_one _) ?_)
        change Code.wp _ _ _ _ ((v9.alloc (.cells (fragA zeroD) 26)).setCells q9 0 (fragA (openD l0)).toList)
        rw [HV10.out]
        clear hq9 HV10 HT10
        go_wp2_with (first
          | ((with_reducible show wpList _ _ _ (⟨some 88, .load 26 _, _, _, _, _⟩ :: _) _ _); refine wpList_load_rowG (by rfl) 26 (.tmp 16) rfl q7 rfl 26 _ (0, 0) _ HG10b.out Tryd.underlying26 rfl HID.out ?_)
          | ((with_reducible show wpList _ _ _ (⟨some 89, .load 26 _, _, _, _, _⟩ :: _) _ _); refine wpList_load_rowG (by rfl) 26 (.tmp 19) rfl q9 rfl 26 _ (0, 0) _ HG10.out Tryd.underlying26 rfl HID.out ?_)
          | fail)
        refine HSM.out.mono ?_
        rintro e v11 ⟨rfl, hs11⟩
        have HBY := Lib.hid (bytes_any (openP l0) a7 a9 Y Y c7 c9 v11 (HB10b.out.spares hs11 (fun _ _ _ h => h)) (HB10.out.spares hs11 (fun _ _ _ h => h)) HY.out.symm HY.out.symm)
        have HS11 := Lib.hid (HS10.out.trans hs11)
        clear hs11 HSM HB10 HB10b HG10 HG10b
        go_wp2_with fail
        refine HBY.out.mono ?_
        rintro e v12 ⟨rfl, rfl⟩
        go_wp2
        go_roundw
        case rel => exact ⟨k + 1, by omega, by go_num, HS11⟩
        case measure => simp [intOf]; omega
      · obtain rfl : k = 2 := by omega
        go_wp2
        go_ret
        exact ⟨rfl, HS6.out.trans HW.out⟩
end Go.Proofs.YtimpnnhadjfijaaDoor
