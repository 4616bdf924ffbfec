/-
  FragBits: a fragment with one bit turned, anywhere, isn't read.
-/
import Derived.Test.YtimpnnhadjfijaaDoorFragSame
import Derived.Test.YtimpnnhadjfijaaDoorQuietTail
namespace Go.Proofs.YtimpnnhadjfijaaDoor
open Go.RowKit CrcMath

/-- One byte of a row is turned. -/
theorem bytesAt_set {w : World} {g off i : Nat} {L : List UInt8} (h : BytesAt w (some ⟨g, off, none⟩) L) (hi : i < L.length) (y : UInt8) :
    BytesAt (w.setCell ⟨g, off + i, none⟩ (.int .u8 y.toNat)) (some ⟨g, off, none⟩) (L.set i y) := by
  intro k hk
  have hk' : k < L.length := by simpa using hk
  obtain ⟨b, o, e, hc⟩ := h k hk'
  injection e with e
  injection e with e1 e2 e3
  subst e1; subst e2
  refine ⟨g, off, rfl, ?_⟩
  obtain ⟨b2, o2, e2, hc2⟩ := h i hi
  injection e2 with e2
  injection e2 with e21 e22 e23
  subst e21; subst e22
  by_cases hki : k = i
  · subst hki
    rw [List.getElem_set_self]
    exact World.cell?_setCell_same' w _ _ (by rw [hc2]; rfl)
  · rw [List.getElem_set_ne (by omega)]
    rw [World.cell?_setCell_other w _ _ _ (by intro e; injection e with _ e _; omega)]
    exact hc
theorem openE_or (l : List UInt8) : (openOK l = true ∧ openE l = 0) ∨ (openOK l = false ∧ openE l = 40 ∧ openD l = zeroD ∧ openP l = []) := by
  cases h : openOK l with
  | true => exact .inl ⟨rfl, by unfold openE; rw [h]; rfl⟩
  | false => exact .inr ⟨rfl, by unfold openE; rw [h]; rfl, by unfold openD; rw [h]; rfl, by unfold openP; rw [h]; rfl⟩
theorem openD_len (l : List UInt8) : (openD l).K.length = 32 ∧ (openD l).S.length = 32 := by
  unfold openD
  cases h : openOK l with
  | false => exact ⟨rfl, rfl⟩
  | true =>
    rw [if_pos rfl]
    unfold openOK at h
    simp at h
    exact ⟨cutF_len _ _ _ (by omega), cutF_len _ _ _ (by omega)⟩

/-- The start that FragBits and FragReads share: where the fragment's bytes lie. -/
theorem own_at {w : World} {a : Option Addr} {c : Nat} {L : List UInt8} (ho : OwnBytes w (.slice a L.length c) L) (h0 : 0 < L.length) :
    ∃ g cs, a = some ⟨g, 0, none⟩ ∧ w.heap[g]? = some (.cells cs 5 (0, 0)) ∧ L.length ≤ c := by
  rcases ho.2 with ⟨e, e2⟩ | ⟨g, cap, cur, hv, _, hg, hc, _⟩
  · omega
  · injection hv with e1 e2 e3
    subst e1; subst e3
    exact ⟨g, cur, rfl, hg, hc⟩
theorem pow_u8 (r : Nat) (h : r < 8) : ∃ z : UInt8, (2 : Int) ^ r = (z.toNat : Int) ∧ IntKind.u8.wrap ((2 : Int) ^ r) = (z.toNat : Int) := by
  obtain rfl | rfl | rfl | rfl | rfl | rfl | rfl | rfl : r = 0 ∨ r = 1 ∨ r = 2 ∨ r = 3 ∨ r = 4 ∨ r = 5 ∨ r = 6 ∨ r = 7 := by omega
  · exact ⟨1, by decide, by decide⟩
  · exact ⟨2, by decide, by decide⟩
  · exact ⟨4, by decide, by decide⟩
  · exact ⟨8, by decide, by decide⟩
  · exact ⟨16, by decide, by decide⟩
  · exact ⟨32, by decide, by decide⟩
  · exact ⟨64, by decide, by decide⟩
  · exact ⟨128, by decide, by decide⟩
theorem xor_u8 (x z : UInt8) : ∃ y : UInt8, Go.bits .xor .u8 (x.toNat : Int) (z.toNat : Int) = (y.toNat : Int) :=
  ⟨x ^^^ z, by rw [u8_xor_nat _ _ x.toNat_lt z.toNat_lt, UInt8.toNat_xor]⟩

set_option maxRecDepth 100000 in
set_option maxHeartbeats 8000000 in
theorem bits_any (F : FragD) (a : Option Addr) (n c : Nat) (l : List UInt8) (at_ : Int) (w : World) (hT : Steps w) (hK : F.K.length = 32) (hS : F.S.length = 32) (hl : BytesAt w a l) (hn : n = l.length) (hnil : a = none → c = 0) (hnc : n ≤ c) (hmax : n < 9223372036854775808)
    (h1 : -9223372036854775808 ≤ at_) (h2 : at_ < 9223372036854775808) :
    Calls Tryd.prog 7 #[.agg (fragA F), .slice a n c, .int .i64 at_] w (Knows w) := by
  obtain ⟨P, hP, hPl⟩ := part_nat F.part
  obtain ⟨v1, hv1⟩ : ∃ v1, w.alloc (.cells (fragA F) 26) = v1 := ⟨_, rfl⟩
  have HV1 := Lib.hid hv1
  have hs1 : Spares nowhere w v1 := by rw [← hv1]; exact (Spares.refl _ w).alloc _
  have HG1 : Hid (v1.heap[w.heap.size]? = some (.cells (fragA F) 26 (0, 0))) := Lib.hid (by rw [← hv1]; exact heap_alloc_new w _)
  have HK1 := Lib.hid (known_any v1 (hT.spares hs1 (fun h => h)))
  have HS1 := Lib.hid hs1
  have HT := Lib.hid hT
  have HL := Lib.hid hl
  have HN := Lib.hid hn
  have HNIL := Lib.hid hnil
  have HK := Lib.hid hK
  have HS := Lib.hid hS
  have HI := Lib.hid (sizeFrag F hK hS)
  clear hv1 hs1 hT hl hn hnil hK hS
  go_enter Tryd.func7, Tryd.ntmps7
  go_wp2_with fail
  change Calls _ _ _ (w.alloc (.cells (fragA F) 26)) _
  rw [HV1.out]
  refine HK1.out.mono ?_
  rintro e v2 ⟨rfl, hs2⟩
  have HS2 := Lib.hid (HS1.out.trans hs2)
  have HG2 := Lib.hid (hs2.heap HG1.out (fun h => h))
  clear hs2 HK1
  by_cases hbig : 500 < n
  · have i1 : (500 : Int) < (n : Int) := by omega
    go_wp2
    go_ret
    exact ⟨rfl, HS2.out⟩
  · have i1 : ¬ (500 : Int) < (n : Int) := by omega
    have HF := Lib.hid (frag_any F P n a n c l v2 (HT.out.spares HS2.out (fun h => h)) (HL.out.spares HS2.out (fun _ _ _ h => h)) HN.out HNIL.out hnc (by omega) HK.out HS.out hP (by omega))
    have hlen := fragB_len F.K P F.last F.turn l HK.out
    have htk : l.take n = l := List.take_of_length_le (by have := HN.out; omega)
    rw [htk] at HF
    obtain ⟨L, hL⟩ : ∃ L, fragB F.K P F.last F.turn l = L := ⟨_, rfl⟩
    rw [hL] at HF hlen
    obtain ⟨m, hm⟩ : ∃ m, L.length = m := ⟨_, rfl⟩
    have hm1 : (89 : Int) + (n : Int) = (m : Int) := by have := HN.out; omega
    have hm2 : m ≤ 589 := by omega
    have hm3 : 89 ≤ m := by omega
    have HM := Lib.hid hm
    clear hlen htk hL hm
    go_wp2_with ((with_reducible show wpList _ _ _ (⟨some 20, .load 26 _, _, _, _, _⟩ :: _) _ _); refine wpList_load_row rfl 26 (.tmp 3) rfl w.heap.size rfl 26 _ (0, 0) _ HG2.out Tryd.underlying26 rfl HI.out ?_)
    refine HF.out.mono ?_
    rintro e v3 ⟨a3, c3, rfl, ho3, hs3, hw3⟩
    obtain ⟨g, cs, rfl, hg3, hc3⟩ := own_at ho3 (by rw [HM.out]; omega)
    have hgw : w.heap.size ≤ g := Nat.le_trans HS2.out.size (hw3 g rfl)
    have hat3 := (ho3.bytes).1
    rw [HM.out] at hc3
    rw [HM.out]
    have hz3 := fun k => Lib.frozen_of_heap hg3 k
    have HS3 := Lib.hid (HS2.out.trans hs3)
    have HA3 := Lib.hid hat3
    have HZ3 := Lib.hid hz3
    clear ho3 hs3 hw3 hg3 hat3 hz3 HF HG2
    obtain ⟨M, hM⟩ : ∃ M, 8 * m = M := ⟨_, rfl⟩
    have hm8 : (8 : Int) * (m : Int) = (M : Int) := by omega
    have HMM := Lib.hid hM
    have hM2 : M ≤ 4712 := by omega
    have hM3 : 0 < M := by omega
    clear hM
    have hne : ((m : Int) != (m : Int)) = false := by simp
    go_wp2_with fail
    refine (place_any at_ M v3 (by omega) (by omega) h1 h2).mono ?_
    rintro e v4 ⟨k, hk, rfl, rfl⟩
    clear hm8
    obtain ⟨i, hi⟩ : ∃ i, k / 8 = i := ⟨_, rfl⟩
    obtain ⟨r, hr⟩ : ∃ r, k % 8 = r := ⟨_, rfl⟩
    have him : i < m := by have := HMM.out; omega
    have hr8 : r < 8 := by omega
    have q1 : (k : Int) / 8 = (i : Int) := by omega
    have q2 : (k : Int).tdiv 8 = (i : Int) := by rw [Int.tdiv_eq_ediv_of_nonneg (by omega)]; exact q1
    have q3 : (k : Int) % 8 = (r : Int) := by omega
    have q4 : (k : Int).tmod 8 = (r : Int) := by rw [Int.tmod_eq_emod_of_nonneg (by omega)]; exact q3
    obtain ⟨z, z1, z2⟩ := pow_u8 r hr8
    obtain ⟨x, hx⟩ : ∃ x, L[i]'(by rw [HM.out]; exact him) = x := ⟨_, rfl⟩
    obtain ⟨y, hy⟩ := xor_u8 x z
    have hy2 : Go.bits .xor .u8 (x.toNat : Int) ((z.toNat : Int) % 256) = (y.toNat : Int) := by rw [show (z.toNat : Int) % 256 = (z.toNat : Int) by have := z.toNat_lt; omega]; exact hy
    have hcx : v3.cell? ⟨g, i, none⟩ = some (.int .u8 x.toNat) := by
      obtain ⟨b', o', e, hc⟩ := HA3.out i (by rw [HM.out]; exact him)
      injection e with e; injection e with e1 e2 e3
      subst e1; subst e2
      rw [hx, Nat.zero_add] at hc
      exact hc
    have hzx : v3.frozen? ⟨g, i, none⟩ = false := HZ3.out i
    have HX := Lib.hid hx
    clear hi hr hx
    go_upto_region 9 with (fail)
    refine wp_region_quiet_tail 10 (by kernel_rfl) (by kernel_rfl) ?_
    simp only [List.take_succ_cons, List.take_zero, List.drop_succ_cons, List.drop_zero]
    repeat (go_big_quiet_step (fail))
    refine wpQuiet_nil ?_
    rintro w9 ⟨nq, hw9⟩
    have hs39 : Spares nowhere v3 w9 := by rw [hw9]; exact (Spares.refl _ v3).drewN nq
    have hc9 : w9.cell? ⟨g, i, none⟩ = some (.int .u8 x.toNat) := by rw [hw9]; exact hcx
    have hz9 : w9.frozen? ⟨g, i, none⟩ = false := by rw [hw9]; exact hzx
    obtain ⟨v5, hv5⟩ : ∃ v5, w9.setCell ⟨g, i, none⟩ (.int .u8 (y.toNat : Int)) = v5 := ⟨_, rfl⟩
    have hs95 : Spares (fun b => b = g) w9 v5 := by rw [← hv5]; exact Spares.setCell (F := fun b => b = g) (Spares.refl _ w9) (p := ⟨g, i, none⟩) (.inl rfl) _
    obtain ⟨T, hTT⟩ : ∃ T, L.set i y = T := ⟨_, rfl⟩
    have HB5 : Hid (BytesAt v5 (some ⟨g, 0, none⟩) T) := Lib.hid (by
      have := bytesAt_set (HA3.out.spares hs39 (fun _ _ _ h => h)) (i := i) (by rw [HM.out]; exact him) y
      rw [Nat.zero_add, hv5, hTT] at this
      exact this)
    have HTL : Hid (T.length = m) := Lib.hid (by rw [← hTT, List.length_set]; exact HM.out)
    have HS5 := Lib.hid ((HS3.out.trans hs39).trans' hs95 (fun b hb => .inr (by omega)))
    have HV5 := Lib.hid hv5
    clear hs39 hs95 hv5 hTT hw9 hcx hzx HA3 HZ3
    have hDl := openD_len T
    go_wp2_with fail
    change Calls _ _ _ (w9.setCell ⟨g, i, none⟩ (.int .u8 (y.toNat : Int))) _
    rw [HV5.out]
    clear hc9 hz9 q1 q2 q3 q4 z1 z2 hy hy2
    refine (openFrag_any (some ⟨g, 0, none⟩) m c3 T v5 (HT.out.spares HS5.out (fun h => h)) HB5.out HTL.out.symm hc3 (by omega)).mono ?_
    rintro e v6 ⟨a6, c6, rfl, hb6, _, hs6⟩
    rcases openE_or T with ⟨hok, hoe⟩ | ⟨hok, hoe, hod, hop⟩
    · have HOE := Lib.hid hoe
      rw [HOE.out]
      clear hoe
      obtain ⟨d1, d2, d3⟩ := frag_new (w := v6) (G := openD T) hDl.1 hDl.2
      obtain ⟨q6, hq6⟩ : ∃ q, v6.heap.size = q := ⟨_, rfl⟩
      obtain ⟨v7, hv7⟩ : ∃ v7, (v6.alloc (.cells (fragA zeroD) 26)).setCells q6 0 (fragA (openD T)).toList = v7 := ⟨_, rfl⟩
      rw [hq6] at d1 d2 d3
      rw [hv7] at d2 d3
      have HV7 := Lib.hid hv7
      have HT7 := Lib.hid d1
      have HG7 := Lib.hid d2
      have HS7 := Lib.hid ((HS5.out.trans hs6).trans d3)
      have HB7 := Lib.hid ((HB5.out.spares hs6 (fun _ _ _ h => h)).spares d3 (fun _ _ _ h => h))
      have HID := Lib.hid (sizeFrag (openD T) hDl.1 hDl.2)
      clear hb6 hs6 d1 d2 d3 hv7
      go_upto_region 11 with ((with_reducible show wpList _ _ _ (⟨none, .store 26 _ _, _, _, _, _⟩ :: _) _ _); refine wpList_store_mid rfl 26 (.tmp 9) (.tmp 47) rfl q6 0 (fragA (openD T)) rfl rfl HT7.out HID.out (fragA_one _) ?_)
      change Code.wp _ _ _ _ ((v6.alloc (.cells (fragA zeroD) 26)).setCells q6 0 (fragA (openD T)).toList)
      rw [HV7.out]
      clear hq6 HV7 HT7
      go_wp2_with fail
      refine (refOpenFrag_any (some ⟨g, 0, none⟩) m c3 T v7 HB7.out HTL.out.symm hc3 (by omega)).mono ?_
      rintro e v8 ⟨a8, c8, rfl, hb8, _, hs8⟩
      rw [HOE.out]
      obtain ⟨d1, d2, d3⟩ := frag_new (w := v8) (G := openD T) hDl.1 hDl.2
      obtain ⟨q8, hq8⟩ : ∃ q, v8.heap.size = q := ⟨_, rfl⟩
      obtain ⟨v9, hv9⟩ : ∃ v9, (v8.alloc (.cells (fragA zeroD) 26)).setCells q8 0 (fragA (openD T)).toList = v9 := ⟨_, rfl⟩
      rw [hq8] at d1 d2 d3
      rw [hv9] at d2 d3
      have HV9 := Lib.hid hv9
      have HT9 := Lib.hid d1
      have HG9 := Lib.hid (d3.heap (hs8.heap HG7.out (fun h => h)) (fun h => h))
      have HS9 := Lib.hid ((HS7.out.trans hs8).trans d3)
      clear hb8 hs8 d1 d2 d3 hv9 HG7
      go_upto_region 12 with ((with_reducible show wpList _ _ _ (⟨none, .store 26 _ _, _, _, _, _⟩ :: _) _ _); refine wpList_store_mid rfl 26 (.tmp 12) (.tmp 53) rfl q8 0 (fragA (openD T)) rfl rfl HT9.out HID.out (fragA_one _) ?_)
      change Code.wp _ _ _ _ ((v8.alloc (.cells (fragA zeroD) 26)).setCells q8 0 (fragA (openD T)).toList)
      rw [HV9.out]
      clear hq8 HV9 HT9
      go_wp2
      go_ret
      exact ⟨rfl, HS9.out⟩
    · have HOE := Lib.hid hoe
      have HOD := Lib.hid hod
      have HOP := Lib.hid hop
      rw [HOE.out, HOP.out]
      clear hoe hod hop
      obtain ⟨d1, d2, d3⟩ := frag_new (w := v6) (G := openD T) hDl.1 hDl.2
      obtain ⟨q6, hq6⟩ : ∃ q, v6.heap.size = q := ⟨_, rfl⟩
      obtain ⟨v7, hv7⟩ : ∃ v7, (v6.alloc (.cells (fragA zeroD) 26)).setCells q6 0 (fragA (openD T)).toList = v7 := ⟨_, rfl⟩
      rw [hq6] at d1 d2 d3
      rw [hv7] at d2 d3
      have HV7 := Lib.hid hv7
      have HT7 := Lib.hid d1
      have HG7 := Lib.hid d2
      have HS7 := Lib.hid ((HS5.out.trans hs6).trans d3)
      have HB7 := Lib.hid ((HB5.out.spares hs6 (fun _ _ _ h => h)).spares d3 (fun _ _ _ h => h))
      have HID := Lib.hid (sizeFrag (openD T) hDl.1 hDl.2)
      clear hb6 hs6 d1 d2 d3 hv7
      go_upto_region 11 with ((with_reducible show wpList _ _ _ (⟨none, .store 26 _ _, _, _, _, _⟩ :: _) _ _); refine wpList_store_mid rfl 26 (.tmp 9) (.tmp 47) rfl q6 0 (fragA (openD T)) rfl rfl HT7.out HID.out (fragA_one _) ?_)
      change Code.wp _ _ _ _ ((v6.alloc (.cells (fragA zeroD) 26)).setCells q6 0 (fragA (openD T)).toList)
      rw [HV7.out]
      clear hq6 HV7 HT7
      go_wp2_with fail
      refine (refOpenFrag_any (some ⟨g, 0, none⟩) m c3 T v7 HB7.out HTL.out.symm hc3 (by omega)).mono ?_
      rintro e v8 ⟨a8, c8, rfl, hb8, _, hs8⟩
      rw [HOE.out]
      obtain ⟨d1, d2, d3⟩ := frag_new (w := v8) (G := openD T) hDl.1 hDl.2
      obtain ⟨q8, hq8⟩ : ∃ q, v8.heap.size = q := ⟨_, rfl⟩
      obtain ⟨v9, hv9⟩ : ∃ v9, (v8.alloc (.cells (fragA zeroD) 26)).setCells q8 0 (fragA (openD T)).toList = v9 := ⟨_, rfl⟩
      rw [hq8] at d1 d2 d3
      rw [hv9] at d2 d3
      have HV9 := Lib.hid hv9
      have HT9 := Lib.hid d1
      have HG9 := Lib.hid (d3.heap (hs8.heap HG7.out (fun h => h)) (fun h => h))
      have HS9 := Lib.hid ((HS7.out.trans hs8).trans d3)
      clear hb8 hs8 d1 d2 d3 hv9 HG7
      go_upto_region 12 with ((with_reducible show wpList _ _ _ (⟨none, .store 26 _ _, _, _, _, _⟩ :: _) _ _); refine wpList_store_mid rfl 26 (.tmp 12) (.tmp 53) rfl q8 0 (fragA (openD T)) rfl rfl HT9.out HID.out (fragA_one _) ?_)
      change Code.wp _ _ _ _ ((v8.alloc (.cells (fragA zeroD) 26)).setCells q8 0 (fragA (openD T)).toList)
      rw [HV9.out]
      clear hq8 HV9 HT9
      have hg9 := HG9.out
      rw [HOD.out] at hg9
      have HG9b := Lib.hid hg9
      have HSM := Lib.hid (same_any zeroD v9 rfl rfl)
      clear hg9
      go_wp2_with ((with_reducible show wpList _ _ _ (⟨some 66, .load 26 _, _, _, _, _⟩ :: _) _ _); refine wpList_load_rowG (by rfl) 26 (.tmp 9) rfl q6 rfl 26 _ (0, 0) _ HG9b.out Tryd.underlying26 rfl (sizeFrag zeroD rfl rfl) ?_)
      refine HSM.out.mono ?_
      rintro e v10 ⟨rfl, hs10⟩
      have HS10 := Lib.hid (HS9.out.trans hs10)
      clear hs10
      go_wp2
      go_ret
      exact ⟨rfl, HS10.out⟩
end Go.Proofs.YtimpnnhadjfijaaDoor
