/-
  FragEntries: any entry is written as the document's bytes, any sixteen bytes are read as just the document's entry, or none.
-/
import Derived.Test.YtimpnnhadjfijaaDoorFragSame
namespace Go.Proofs.YtimpnnhadjfijaaDoor
open Go.RowKit CrcMath

theorem entry_parts (T at_ sec U : Nat) (h2 : at_ < 4294967296) (h3 : sec < 65536) (hT : T < 65536) (hU : U < 18446744073709551616) :
    atE (entryF T at_ sec U) = at_ ∧ secE (entryF T at_ sec U) = sec ∧ tagE (entryF T at_ sec U) = T ∧ rawE (entryF T at_ sec U) = U := by
  have e4 : 256 ^ 4 = 4294967296 := by decide
  have e2 : 256 ^ 2 = 65536 := by decide
  have e8 : 256 ^ 8 = 18446744073709551616 := by decide
  have hE : entryF T at_ sec U = beN 4 at_ ++ (beN 2 sec ++ (beN 2 T ++ beN 8 U)) := by unfold entryF; simp only [List.append_assoc]
  have d4 : (entryF T at_ sec U).drop 4 = beN 2 sec ++ (beN 2 T ++ beN 8 U) := by rw [hE]; exact List.drop_left' (beN_len _ _)
  have d6 : ((entryF T at_ sec U).drop 4).drop 2 = beN 2 T ++ beN 8 U := by rw [d4]; exact List.drop_left' (beN_len _ _)
  have d8 : (((entryF T at_ sec U).drop 4).drop 2).drop 2 = beN 8 U := by rw [d6]; exact List.drop_left' (beN_len _ _)
  refine ⟨?_, ?_, ?_, ?_⟩
  · unfold atE; rw [hE, List.take_left' (beN_len _ _)]; exact ofBE_beN 4 _ (by rw [e4]; exact h2)
  · unfold secE; rw [d4, List.take_left' (beN_len _ _)]; exact ofBE_beN 2 _ (by rw [e2]; exact h3)
  · unfold tagE; rw [d6, List.take_left' (beN_len _ _)]; exact ofBE_beN 2 _ (by rw [e2]; exact hT)
  · unfold rawE; rw [d8, List.take_of_length_le (by rw [beN_len]; exact Nat.le_refl _)]; exact ofBE_beN 8 _ (by rw [e8]; exact hU)
theorem beN_ofBE : ∀ (l : List UInt8), beN l.length (ofBE l) = l := by
  intro l
  apply List.ext_getElem (by rw [beN_len])
  intro i h1 h2
  rw [beN_getElem _ _ _ h2]
  have h3 : ∀ (n : Nat) (l : List UInt8), l.length = n → ∀ i (h : i < l.length), UInt8.ofNat (ofBE l / 256 ^ (n - 1 - i)) = l[i] := by
    intro n
    induction n with
    | zero => intro l hl i hi; omega
    | succ n ih =>
      intro l hl i hi
      obtain ⟨t, x, rfl⟩ : ∃ t x, l = t ++ [x] := by
        refine ⟨l.take n, l[n]'(by omega), ?_⟩
        have := List.take_append_drop n l
        rw [List.drop_eq_getElem_cons (by omega), List.drop_of_length_le (by omega)] at this
        exact this.symm
      have ht : t.length = n := by simpa using hl
      rw [ofBE_snoc]
      have hx := x.toNat_lt
      by_cases hin : i < n
      · have e : n + 1 - 1 - i = (n - 1 - i) + 1 := by omega
        rw [e, Nat.pow_succ, Nat.mul_comm (256 ^ (n - 1 - i)) 256, ← Nat.div_div_eq_div_mul, show (ofBE t * 256 + x.toNat) / 256 = ofBE t by omega, List.getElem_append_left (by omega)]
        exact ih t ht i (by omega)
      · obtain rfl : i = n := by omega
        rw [show i + 1 - 1 - i = 0 by omega, Nat.pow_zero, Nat.div_one, List.getElem_append_right (by omega)]
        simp only [ht, Nat.sub_self, List.getElem_cons_zero]
        apply UInt8.toNat_inj.1
        rw [UInt8.toNat_ofNat']
        omega
  exact h3 l.length l rfl i h2
theorem entry_back (X : List UInt8) (h : X.length = 16) : entryF (tagE X) (atE X) (secE X) (rawE X) = X := by
  have h1 : (X.take 4).length = 4 := by simp; omega
  have h2 : ((X.drop 4).take 2).length = 2 := by simp; omega
  have h3 : (((X.drop 4).drop 2).take 2).length = 2 := by simp; omega
  have h4 : ((((X.drop 4).drop 2).drop 2).take 8).length = 8 := by simp; omega
  have e1 := beN_ofBE (X.take 4)
  have e2 := beN_ofBE ((X.drop 4).take 2)
  have e3 := beN_ofBE (((X.drop 4).drop 2).take 2)
  have e4 := beN_ofBE ((((X.drop 4).drop 2).drop 2).take 8)
  rw [h1] at e1; rw [h2] at e2; rw [h3] at e3; rw [h4] at e4
  unfold entryF atE secE tagE rawE
  rw [e1, e2, e3, e4]
  have e5 : (((X.drop 4).drop 2).drop 2).take 8 = ((X.drop 4).drop 2).drop 2 := List.take_of_length_le (by simp; omega)
  rw [e5]
  simp only [List.append_assoc]
  rw [List.take_append_drop, List.take_append_drop, List.take_append_drop]
theorem orTop_back {n : Nat} (h : 9223372036854775808 ≤ n) (h2 : n < 18446744073709551616) : orTop (n % 9223372036854775808) = n := by
  unfold orTop
  split <;> omega
theorem orTop_lt {n : Nat} (h : n < 18446744073709551616) : orTop n < 18446744073709551616 ∧ 9223372036854775808 ≤ orTop n ∧ orTop n % 9223372036854775808 = n % 9223372036854775808 := by
  unfold orTop
  split <;> omega
/-- An entry that was written is read. -/
theorem entry_round (tag at_ sec turn : Nat) (_h1 : tag < 65536) (h2 : at_ < 4294967296) (h3 : sec < 65536) (h4 : turn < 18446744073709551616) :
    oeV (entryF (tag % 4096) at_ sec (orTop turn)) = if 0 < sec then .tuple #[entryV (tag % 4096) at_ sec (turn % 9223372036854775808), .int .i64 0] else .tuple #[entryV 0 0 0 0, .int .i64 40] := by
  obtain ⟨u1, u2, u3⟩ := orTop_lt h4
  obtain ⟨p1, p2, p3, p4⟩ := entry_parts (tag % 4096) at_ sec (orTop turn) h2 h3 (by omega) u1
  by_cases hs : 0 < sec
  · rw [if_pos hs, oeV_good (by rw [p4]; exact u2) (by rw [p3]; omega) (by rw [p2]; exact hs), p1, p2, p3, p4, u3]
  · rw [if_neg hs, oeV_bad (by rw [p2]; omega)]

/-- Sixteen bytes laid into a new variable. -/
theorem arr16_new {w : World} {D : List UInt8} (hD : D.length = 16) :
    (w.alloc (.cells (bytesV (List.replicate 16 0)) 45)).there w.heap.size 0 (bytesV D).size ∧ ((w.alloc (.cells (bytesV (List.replicate 16 0)) 45)).setCells w.heap.size 0 (Lib.byteCells D)).heap[w.heap.size]? = some (.cells (bytesV D) 45 (0, 0)) ∧
      Spares nowhere w ((w.alloc (.cells (bytesV (List.replicate 16 0)) 45)).setCells w.heap.size 0 (Lib.byteCells D)) := by
  have hal := heap_alloc_new w (.cells (bytesV (List.replicate 16 0)) 45)
  refine ⟨there_of hal 0 _ (by rw [bytesV_size, bytesV_size, hD]; simp), ?_, ((Spares.refl nowhere w).alloc _).trans' (F' := fun b => b = w.heap.size) (spares_setCells _ _ _ (Spares.refl _ _)) (fun b hb => .inr (Nat.le_of_eq hb.symm))⟩
  have := heap_setCells (g := w.heap.size) (t := 45) (Lib.byteCells D) [] (Lib.byteCells (List.replicate 16 0)) [] _ (by rw [List.append_nil]; exact hal) (by rw [byteCells_len, byteCells_len, hD]; simp)
  rw [List.append_nil] at this
  exact this
theorem oeV_parts (X : List UInt8) (h : X.length = 16) : ∃ x0 x1 x2 x3 : Nat, ∃ z : Int, oeV X = .tuple #[entryV x0 x1 x2 x3, .int .i64 z] ∧ x0 < 65536 ∧ x1 < 4294967296 ∧ x2 < 65536 ∧ x3 < 18446744073709551616 ∧ (z = 40 ∨ z = 0 ∧ entryF (x0 % 4096) x1 x2 (orTop x3) = X) := by
  obtain ⟨f1, f2, f3, f4⟩ := fieldE_lt X h
  by_cases hg : 9223372036854775808 ≤ rawE X ∧ tagE X ≤ 4095 ∧ 0 < secE X
  · refine ⟨_, _, _, _, _, oeV_good hg.1 hg.2.1 hg.2.2, f3, f1, f2, by omega, .inr ⟨rfl, ?_⟩⟩
    rw [Nat.mod_eq_of_lt (show tagE X < 4096 by omega), orTop_back hg.1 f4]
    exact entry_back X h
  · exact ⟨_, _, _, _, _, oeV_bad hg, by omega, by omega, by omega, by omega, .inl rfl⟩
theorem infoE16 (D : List UInt8) (h : D.length = 16) : (Tryd.prog.info? 45).map (·.size) = some (bytesV D).size := by rw [bytesV_size, h]; exact info16

set_option maxRecDepth 100000 in
set_option maxHeartbeats 8000000 in
theorem entries_any (tag at_ sec turn : Nat) (X : List UInt8) (w : World) (hT : Steps w) (hX : X.length = 16) (h1 : tag < 65536) (h2 : at_ < 4294967296) (h3 : sec < 65536) (h4 : turn < 18446744073709551616) :
    Calls Tryd.prog 5 #[.agg #[.int .u16 tag, .int .u32 at_, .int .u16 sec, .int .u64 turn], .agg (bytesV X)] w (Knows w) := by
  obtain ⟨T, hT1⟩ : ∃ T, tag % 4096 = T := ⟨_, rfl⟩
  obtain ⟨U, hU1⟩ : ∃ U, orTop turn = U := ⟨_, rfl⟩
  have ta := tag_and h1
  have to := top_or h4
  have tn := top_andNot h4
  rw [hT1] at ta
  rw [hU1] at to
  have hrd := entry_round tag at_ sec turn h1 h2 h3 h4
  rw [hT1, hU1] at hrd
  obtain ⟨V, hV⟩ : ∃ V, turn % 9223372036854775808 = V := ⟨_, rfl⟩
  rw [hV] at hrd tn
  obtain ⟨D, hD⟩ : ∃ D, entryF T at_ sec U = D := ⟨_, rfl⟩
  rw [hD] at hrd
  have hDl : D.length = 16 := by rw [← hD]; exact entryF_len ..
  have hTl : T < 65536 := by omega
  have HE1 : Hid (∀ W, Calls Tryd.prog 17 #[.agg #[.int .u16 tag, .int .u32 at_, .int .u16 sec, .int .u64 turn]] W fun e w' => e = .returned (.agg (bytesV D)) ∧ Spares nowhere W w') := Lib.hid (fun W => by
    rw [← hD]; exact entry_any tag at_ sec turn T U W ta to h1 h2 h3 hTl)
  have HE2 : Hid (∀ W, Calls Tryd.prog 20 #[.agg #[.int .u16 tag, .int .u32 at_, .int .u16 sec, .int .u64 turn]] W fun e w' => e = .returned (.agg (bytesV D)) ∧ Spares nowhere W w') := Lib.hid (fun W => by
    rw [← hD]; exact refEntry_any tag at_ sec turn T U W ta to h1 h2 h3 hTl)
  obtain ⟨x0, x1, x2, x3, z, hoe, g1, g2, g3, g4, hzz⟩ := oeV_parts X hX
  have HOE : Hid (oeV X = .tuple #[.agg #[.int .u16 x0, .int .u32 x1, .int .u16 x2, .int .u64 x3], .int .i64 z]) := Lib.hid hoe
  have HZZ := Lib.hid hzz
  have HRD := Lib.hid hrd
  have HX := Lib.hid hX
  have HDL := Lib.hid hDl
  have TA := Lib.hid ta
  have TN := Lib.hid tn
  obtain ⟨v2, hv2⟩ : ∃ v2, (w.alloc (.cells #[.int .u16 tag, .int .u32 at_, .int .u16 sec, .int .u64 turn] 44)).alloc (.cells (bytesV X) 45) = v2 := ⟨_, rfl⟩
  have HV2 := Lib.hid hv2
  have HG2 : Hid (v2.heap[w.heap.size]? = some (.cells #[.int .u16 tag, .int .u32 at_, .int .u16 sec, .int .u64 turn] 44 (0, 0))) := Lib.hid (by
    rw [← hv2]
    exact (Below.heap_alloc _ _ _ (by simp)).trans (heap_alloc_new w _))
  have HX2 : Hid (v2.heap[w.heap.size + 1]? = some (.cells (bytesV X) 45 (0, 0))) := Lib.hid (by
    rw [← hv2]
    have := heap_alloc_new (w.alloc (.cells #[.int .u16 tag, .int .u32 at_, .int .u16 sec, .int .u64 turn] 44)) (.cells (bytesV X) 45)
    simpa using this)
  have hs2 : Spares nowhere w v2 := by rw [← hv2]; exact ((Spares.refl _ w).alloc _).alloc _
  have HK := Lib.hid (known_any v2 (hT.spares hs2 (fun h => h)))
  have HS2 := Lib.hid hs2
  have HIE := Lib.hid infoEntry
  have HI16 := Lib.hid (infoE16 X hX)
  have HI16D := Lib.hid (infoE16 D hDl)
  clear hT hX hT1 hU1 hV hD hDl ta to tn hrd hoe hzz hv2 hs2
  go_enter Tryd.func5, Tryd.ntmps5
  go_wp2_with fail
  change Calls _ _ _ ((w.alloc (.cells #[.int .u16 tag, .int .u32 at_, .int .u16 sec, .int .u64 turn] 44)).alloc (.cells (bytesV X) 45)) _
  rw [HV2.out]
  refine HK.out.mono ?_
  rintro e v3 ⟨rfl, hs3⟩
  have HS3 := Lib.hid (HS2.out.trans hs3)
  have HG3 := Lib.hid (hs3.heap HG2.out (fun h => h))
  have HX3 := Lib.hid (hs3.heap HX2.out (fun h => h))
  clear hs3 HK HG2 HX2 HS2
  go_wp2_with ((with_reducible show wpList _ _ _ (⟨some 14, .load 44 _, _, _, _, _⟩ :: _) _ _); refine wpList_load_row rfl 44 (.tmp 2) rfl w.heap.size rfl 44 _ (0, 0) _ HG3.out Tryd.underlying44 rfl HIE.out ?_)
  refine (HE1.out v3).mono ?_
  rintro e v4 ⟨rfl, hs4⟩
  obtain ⟨d1, d2, d3⟩ := arr16_new (w := v4) HDL.out
  obtain ⟨q5, hq5⟩ : ∃ q, v4.heap.size = q := ⟨_, rfl⟩
  obtain ⟨v5, hv5⟩ : ∃ v5, (v4.alloc (.cells (bytesV (List.replicate 16 0)) 45)).setCells q5 0 (Lib.byteCells D) = v5 := ⟨_, rfl⟩
  rw [hq5] at d1 d2 d3
  rw [hv5] at d2 d3
  have HV5 := Lib.hid hv5
  have HT5 := Lib.hid d1
  have HD5 := Lib.hid d2
  have hs35 := hs4.trans d3
  have HS5 := Lib.hid (HS3.out.trans hs35)
  have HG5 := Lib.hid (hs35.heap HG3.out (fun h => h))
  have HX5 := Lib.hid (hs35.heap HX3.out (fun h => h))
  clear hs4 d1 d2 d3 hv5 hs35 HG3 HX3 HS3
  go_upto_region 4 with ((with_reducible show wpList _ _ _ (⟨none, .store 45 _ _, _, _, _, _⟩ :: _) _ _); refine wpList_store_mid rfl 45 (.tmp 5) (.tmp 15) rfl q5 0 (bytesV D) rfl rfl HT5.out HI16D.out (bytesV_one _) ?_)
  change Code.wp _ _ _ _ ((v4.alloc (.cells (bytesV (List.replicate 16 0)) 45)).setCells q5 0 (Lib.byteCells D))
  rw [HV5.out]
  clear hq5 HV5 HT5
  go_wp2_with ((with_reducible show wpList _ _ _ (⟨some 17, .load 45 _, _, _, _, _⟩ :: _) _ _); refine wpList_load_row rfl 45 (.tmp 3) rfl (w.heap.size + 1) rfl 45 _ (0, 0) _ HX5.out Tryd.underlying45 rfl HI16.out ?_)
  refine (openEntry_any X v5 HX.out).mono ?_
  rintro e v6 ⟨rfl, hs6⟩
  rw [HOE.out]
  obtain ⟨q6, hq6⟩ : ∃ q, v6.heap.size = q := ⟨_, rfl⟩
  obtain ⟨v7, hv7⟩ : ∃ v7, v6.alloc (.cells #[.int .u16 x0, .int .u32 x1, .int .u16 x2, .int .u64 x3] 44) = v7 := ⟨_, rfl⟩
  have hs67 : Spares nowhere v5 v7 := by rw [← hv7]; exact hs6.alloc _
  have HV7 := Lib.hid hv7
  have HA7 : Hid (v7.heap[q6]? = some (.cells #[.int .u16 x0, .int .u32 x1, .int .u16 x2, .int .u64 x3] 44 (0, 0))) := Lib.hid (by rw [← hv7, ← hq6]; exact heap_alloc_new v6 _)
  have HS7 := Lib.hid (HS5.out.trans hs67)
  have HG7 := Lib.hid (hs67.heap HG5.out (fun h => h))
  have HX7 := Lib.hid (hs67.heap HX5.out (fun h => h))
  have HD7 := Lib.hid (hs67.heap HD5.out (fun h => h))
  clear hs6 hv7 hs67 HG5 HX5 HD5 HS5
  go_upto_region 5 with (fail)
  change Code.wp _ _ _ _ (v6.alloc (.cells #[.int .u16 x0, .int .u32 x1, .int .u16 x2, .int .u64 x3] 44))
  rw [HV7.out]
  clear hq6 HV7
  go_wp2_with ((with_reducible show wpList _ _ _ (⟨some 22, .load 45 _, _, _, _, _⟩ :: _) _ _); refine wpList_load_row rfl 45 (.tmp 3) rfl (w.heap.size + 1) rfl 45 _ (0, 0) _ HX7.out Tryd.underlying45 rfl HI16.out ?_)
  refine (refOpenEntry_any X v7 HX.out).mono ?_
  rintro e v8 ⟨rfl, hs8⟩
  rw [HOE.out]
  obtain ⟨q8, hq8⟩ : ∃ q, v8.heap.size = q := ⟨_, rfl⟩
  obtain ⟨v9, hv9⟩ : ∃ v9, v8.alloc (.cells #[.int .u16 x0, .int .u32 x1, .int .u16 x2, .int .u64 x3] 44) = v9 := ⟨_, rfl⟩
  have hs89 : Spares nowhere v7 v9 := by rw [← hv9]; exact hs8.alloc _
  have HV9 := Lib.hid hv9
  have HB9 : Hid (v9.heap[q8]? = some (.cells #[.int .u16 x0, .int .u32 x1, .int .u16 x2, .int .u64 x3] 44 (0, 0))) := Lib.hid (by rw [← hv9, ← hq8]; exact heap_alloc_new v8 _)
  have HS9 := Lib.hid (HS7.out.trans hs89)
  have HG9 := Lib.hid (hs89.heap HG7.out (fun h => h))
  have HX9 := Lib.hid (hs89.heap HX7.out (fun h => h))
  have HD9 := Lib.hid (hs89.heap HD7.out (fun h => h))
  have HA9 := Lib.hid (hs89.heap HA7.out (fun h => h))
  clear hs8 hv9 hs89 HG7 HX7 HD7 HA7 HS7
  go_upto_region 6 with (fail)
  change Code.wp _ _ _ _ (v8.alloc (.cells #[.int .u16 x0, .int .u32 x1, .int .u16 x2, .int .u64 x3] 44))
  rw [HV9.out]
  clear hq8 HV9
  obtain ⟨y0, y1, y2, y3, zz, hyy⟩ : ∃ y0 y1 y2 y3 : Nat, ∃ zz : Int, oeV D = .tuple #[.agg #[.int .u16 y0, .int .u32 y1, .int .u16 y2, .int .u64 y3], .int .i64 zz] ∧ (0 < sec → y0 = T ∧ y1 = at_ ∧ y2 = sec ∧ y3 = V ∧ zz = 0) ∧ (¬ 0 < sec → zz = 40) := by
    rw [HRD.out]
    by_cases hsec : 0 < sec
    · rw [if_pos hsec]; exact ⟨_, _, _, _, _, rfl, fun _ => ⟨rfl, rfl, rfl, rfl, rfl⟩, fun h => absurd hsec h⟩
    · rw [if_neg hsec]; exact ⟨_, _, _, _, _, rfl, fun h => absurd h hsec, fun _ => rfl⟩
  have HYY := Lib.hid hyy
  clear hyy
  go_wp2_with ((with_reducible show wpList _ _ _ (⟨some 27, .load 45 _, _, _, _, _⟩ :: _) _ _); refine wpList_load_row rfl 45 (.tmp 5) rfl q5 rfl 45 _ (0, 0) _ HD9.out Tryd.underlying45 rfl HI16D.out ?_)
  refine (openEntry_any D v9 HDL.out).mono ?_
  rintro e v10 ⟨rfl, hs10⟩
  rw [HYY.out.1]
  obtain ⟨q10, hq10⟩ : ∃ q, v10.heap.size = q := ⟨_, rfl⟩
  obtain ⟨v11, hv11⟩ : ∃ v11, v10.alloc (.cells #[.int .u16 y0, .int .u32 y1, .int .u16 y2, .int .u64 y3] 44) = v11 := ⟨_, rfl⟩
  have hs11 : Spares nowhere v9 v11 := by rw [← hv11]; exact hs10.alloc _
  have HV11 := Lib.hid hv11
  have HC11 : Hid (v11.heap[q10]? = some (.cells #[.int .u16 y0, .int .u32 y1, .int .u16 y2, .int .u64 y3] 44 (0, 0))) := Lib.hid (by rw [← hv11, ← hq10]; exact heap_alloc_new v10 _)
  have HS11 := Lib.hid (HS9.out.trans hs11)
  have HG11 := Lib.hid (hs11.heap HG9.out (fun h => h))
  have HX11 := Lib.hid (hs11.heap HX9.out (fun h => h))
  have HD11 := Lib.hid (hs11.heap HD9.out (fun h => h))
  have HA11 := Lib.hid (hs11.heap HA9.out (fun h => h))
  have HB11 := Lib.hid (hs11.heap HB9.out (fun h => h))
  clear hs10 hv11 hs11 HG9 HX9 HD9 HA9 HB9 HS9
  go_upto_region 7 with (fail)
  change Code.wp _ _ _ _ (v10.alloc (.cells #[.int .u16 y0, .int .u32 y1, .int .u16 y2, .int .u64 y3] 44))
  rw [HV11.out]
  clear hq10 HV11
  -- GEN
  have HKP : Hid (∀ W, Spares nowhere v11 W → W.rangeAt q5 0 (Lib.byteCells D) ∧ W.rangeAt w.heap.size 0 [.int .u16 tag, .int .u32 at_, .int .u16 sec, .int .u64 turn] ∧ W.rangeAt q6 0 [.int .u16 x0, .int .u32 x1, .int .u16 x2, .int .u64 x3] ∧ W.rangeAt q8 0 [.int .u16 x0, .int .u32 x1, .int .u16 x2, .int .u64 x3] ∧ W.rangeAt q10 0 [.int .u16 y0, .int .u32 y1, .int .u16 y2, .int .u64 y3] ∧ W.rangeAt (w.heap.size + 1) 0 (Lib.byteCells X)) := Lib.hid (fun W hW => by
    refine ⟨range_of (hW.heap HD11.out (fun h => h)) 0 _ (fun j v hj => by rw [Nat.zero_add]; simpa [bytesV] using hj), range_of (hW.heap HG11.out (fun h => h)) 0 _ (fun j v hj => by rw [Nat.zero_add]; simpa using hj), range_of (hW.heap HA11.out (fun h => h)) 0 _ (fun j v hj => by rw [Nat.zero_add]; simpa using hj), range_of (hW.heap HB11.out (fun h => h)) 0 _ (fun j v hj => by rw [Nat.zero_add]; simpa using hj), range_of (hW.heap HC11.out (fun h => h)) 0 _ (fun j v hj => by rw [Nat.zero_add]; simpa using hj), range_of (hW.heap HX11.out (fun h => h)) 0 _ (fun j v hj => by rw [Nat.zero_add]; simpa [bytesV] using hj)⟩)
  have kD := key16_equal D D HDL.out HDL.out
  rw [decide_eq_true rfl] at kD
  have hzn : (z != z) = false := by simp
  have kE : ∀ W : World, W = W := fun W => rfl
  refine wp_region_quiet (C := fun W => Spares nowhere v11 W) (by kernel_rfl) (by kernel_rfl) (Spares.refl nowhere v11).drew ?_
  refine wpQuiet_step (fun K hK => ?_)
  refine quiet_if (.agg (bytesV D)) (by rfl) (fun W hW => ?_) ?_
  · exact quiet_load 45 (.tmp 5) rfl q5 0 rfl (Lib.byteCells D) _ W (HKP.out W hW).1 Tryd.underlying45 rfl HI16D.out
  go_simp
  refine hK _ ?_
  clear hK K
  refine wpQuiet_step (fun K hK => ?_)
  refine quiet_if (.agg #[.int .u16 tag, .int .u32 at_, .int .u16 sec, .int .u64 turn]) (by rfl) (fun W hW => ?_) ?_
  · exact quiet_load 44 (.tmp 2) rfl w.heap.size 0 rfl [.int .u16 tag, .int .u32 at_, .int .u16 sec, .int .u64 turn] _ W (HKP.out W hW).2.1 Tryd.underlying44 rfl HIE.out
  go_simp
  refine hK _ ?_
  clear hK K
  refine wpQuiet_step (fun K hK => ?_)
  refine quiet_if (.agg (bytesV D)) (by rfl) (fun W hW => ?_) ?_
  · go_simp
    refine (HE2.out W).mono ?_
    rintro e W' ⟨rfl, h⟩
    exact ⟨rfl, hW.trans h⟩
  go_simp
  refine hK _ ?_
  clear hK K
  refine wpQuiet_step (fun K hK => ?_)
  refine quiet_if (.bool false) (by rfl) (fun W hW => ?_) ?_
  · have h1 := kD W
    go_simp
  go_simp
  refine hK _ ?_
  clear hK K
  refine wpQuiet_step (fun K hK => ?_)
  refine quiet_if (.bool false) (by rfl) (fun W hW => ?_) ?_
  · exact ⟨rfl, rfl⟩
  go_simp
  refine hK _ ?_
  clear hK K
  refine wpQuiet_step (fun K hK => ?_)
  refine quiet_if (.int .i64 z) (by rfl) (fun W hW => ?_) ?_
  · exact ⟨rfl, rfl⟩
  go_simp
  refine hK _ ?_
  clear hK K
  refine wpQuiet_step (fun K hK => ?_)
  refine quiet_if (.int .i64 z) (by rfl) (fun W hW => ?_) ?_
  · exact ⟨rfl, rfl⟩
  go_simp
  refine hK _ ?_
  clear hK K
  refine wpQuiet_step (fun K hK => ?_)
  refine quiet_if (.bool false) (by rfl) (fun W hW => ?_) ?_
  · have h1 := hzn
    go_simp
  go_simp
  refine hK _ ?_
  clear hK K
  refine wpQuiet_step (fun K hK => ?_)
  refine quiet_if (.bool false) (by rfl) (fun W hW => ?_) ?_
  · go_simp
  go_simp
  refine hK _ ?_
  clear hK K
  refine wpQuiet_step (fun K hK => ?_)
  refine quiet_if (.bool false) (by rfl) (fun W hW => ?_) ?_
  · exact ⟨rfl, rfl⟩
  go_simp
  refine hK _ ?_
  clear hK K
  refine wpQuiet_step (fun K hK => ?_)
  refine quiet_if (.agg #[.int .u16 x0, .int .u32 x1, .int .u16 x2, .int .u64 x3]) (by rfl) (fun W hW => ?_) ?_
  · exact quiet_load 44 (.tmp 6) rfl q6 0 rfl [.int .u16 x0, .int .u32 x1, .int .u16 x2, .int .u64 x3] _ W (HKP.out W hW).2.2.1 Tryd.underlying44 rfl HIE.out
  go_simp
  refine hK _ ?_
  clear hK K
  refine wpQuiet_step (fun K hK => ?_)
  refine quiet_if (.agg #[.int .u16 x0, .int .u32 x1, .int .u16 x2, .int .u64 x3]) (by rfl) (fun W hW => ?_) ?_
  · exact quiet_load 44 (.tmp 8) rfl q8 0 rfl [.int .u16 x0, .int .u32 x1, .int .u16 x2, .int .u64 x3] _ W (HKP.out W hW).2.2.2.1 Tryd.underlying44 rfl HIE.out
  go_simp
  refine hK _ ?_
  clear hK K
  refine wpQuiet_step (fun K hK => ?_)
  refine quiet_if (.bool false) (by rfl) (fun W hW => ?_) ?_
  · have h1 := kE W
    go_simp
  go_simp
  refine hK _ ?_
  clear hK K
  refine wpQuiet_step (fun K hK => ?_)
  refine quiet_if (.bool false) (by rfl) (fun W hW => ?_) ?_
  · go_simp
  go_simp
  refine hK _ ?_
  clear hK K
  refine wpQuiet_nil (fun v12 hW => ?_)
  have hW12 := hW
  have HW12 := Lib.hid hW
  have csec : v12.cell? ⟨w.heap.size, 2, none⟩ = some (.int .u16 sec) := (HKP.out v12 hW).2.1 2 _ rfl
  have HKP2 : Hid (∀ W, Spares nowhere v12 W → W.rangeAt q5 0 (Lib.byteCells D) ∧ W.rangeAt w.heap.size 0 [.int .u16 tag, .int .u32 at_, .int .u16 sec, .int .u64 turn] ∧ W.rangeAt q6 0 [.int .u16 x0, .int .u32 x1, .int .u16 x2, .int .u64 x3] ∧ W.rangeAt q8 0 [.int .u16 x0, .int .u32 x1, .int .u16 x2, .int .u64 x3] ∧ W.rangeAt q10 0 [.int .u16 y0, .int .u32 y1, .int .u16 y2, .int .u64 y3] ∧ W.rangeAt (w.heap.size + 1) 0 (Lib.byteCells X)) := Lib.hid (fun W h => HKP.out W (hW12.trans h))
  have HS12 := Lib.hid (HS11.out.trans hW)
  clear hW hW12 HKP kD hzn kE HG11 HX11 HD11 HA11 HB11 HC11 HS11
  by_cases hsec : 0 < sec
  case neg =>
    have hz40 := HYY.out.2.2 hsec
    have s1 : ((sec : Int) == 0) = true := by simp; omega
    subst hz40
    clear hsec
    go_wp2
    go_ret
    exact ⟨rfl, HS12.out⟩
  have s1 : ((sec : Int) == 0) = false := by simp; omega
  obtain ⟨e0, e1, e2, e3, e4⟩ := HYY.out.2.1 hsec
  clear HYY hsec
  subst e0; subst e1; subst e2; subst e3; subst e4
  go_upto_region 11 with (fail)
  clear csec s1
  rcases HZZ.out with hz | ⟨hz, hxx⟩
  · subst hz
    clear HZZ
    refine wp_region_quiet (C := fun W => Spares nowhere v12 W) (by kernel_rfl) (by kernel_rfl) (Spares.refl nowhere v12).drew ?_
    refine wpQuiet_step (fun K hK => ?_)
    refine quiet_if (.int .i64 0) (by rfl) (fun W hW => ?_) ?_
    · exact ⟨rfl, rfl⟩
    go_simp
    refine hK _ ?_
    clear hK K
    refine wpQuiet_step (fun K hK => ?_)
    refine quiet_if (.bool true) (by rfl) (fun W hW => ?_) ?_
    · go_simp
    go_simp
    refine hK _ ?_
    clear hK K
    refine wpQuiet_step (fun K hK => ?_)
    refine quiet_if (.bool true) (by rfl) (fun W hW => ?_) ?_
    · exact ⟨rfl, rfl⟩
    go_simp
    refine hK _ ?_
    clear hK K
    refine wpQuiet_step (fun K hK => ?_)
    refine quiet_if (.pointer (some ⟨q10, 1, none⟩)) (by rfl) (fun W hW => ?_) ?_
    · go_simp
    go_simp
    refine hK _ ?_
    clear hK K
    refine wpQuiet_step (fun K hK => ?_)
    refine quiet_if (.int .u32 y1) (by rfl) (fun W hW => ?_) ?_
    · have hc : W.cell? ⟨q10, 1, none⟩ = some (.int .u32 y1) := (HKP2.out W hW).2.2.2.2.1 1 _ rfl
      go_simp
    go_simp
    refine hK _ ?_
    clear hK K
    refine wpQuiet_step (fun K hK => ?_)
    refine quiet_if (.pointer (some ⟨w.heap.size, 1, none⟩)) (by rfl) (fun W hW => ?_) ?_
    · go_simp
    go_simp
    refine hK _ ?_
    clear hK K
    refine wpQuiet_step (fun K hK => ?_)
    refine quiet_if (.int .u32 y1) (by rfl) (fun W hW => ?_) ?_
    · have hc : W.cell? ⟨w.heap.size, 1, none⟩ = some (.int .u32 y1) := (HKP2.out W hW).2.1 1 _ rfl
      go_simp
    go_simp
    refine hK _ ?_
    clear hK K
    refine wpQuiet_step (fun K hK => ?_)
    refine quiet_if (.bool true) (by rfl) (fun W hW => ?_) ?_
    · go_simp
    go_simp
    refine hK _ ?_
    clear hK K
    refine wpQuiet_step (fun K hK => ?_)
    refine quiet_if (.bool true) (by rfl) (fun W hW => ?_) ?_
    · go_simp
    go_simp
    refine hK _ ?_
    clear hK K
    refine wpQuiet_step (fun K hK => ?_)
    refine quiet_if (.bool true) (by rfl) (fun W hW => ?_) ?_
    · exact ⟨rfl, rfl⟩
    go_simp
    refine hK _ ?_
    clear hK K
    refine wpQuiet_step (fun K hK => ?_)
    refine quiet_if (.pointer (some ⟨q10, 2, none⟩)) (by rfl) (fun W hW => ?_) ?_
    · go_simp
    go_simp
    refine hK _ ?_
    clear hK K
    refine wpQuiet_step (fun K hK => ?_)
    refine quiet_if (.int .u16 y2) (by rfl) (fun W hW => ?_) ?_
    · have hc : W.cell? ⟨q10, 2, none⟩ = some (.int .u16 y2) := (HKP2.out W hW).2.2.2.2.1 2 _ rfl
      go_simp
    go_simp
    refine hK _ ?_
    clear hK K
    refine wpQuiet_step (fun K hK => ?_)
    refine quiet_if (.pointer (some ⟨w.heap.size, 2, none⟩)) (by rfl) (fun W hW => ?_) ?_
    · go_simp
    go_simp
    refine hK _ ?_
    clear hK K
    refine wpQuiet_step (fun K hK => ?_)
    refine quiet_if (.int .u16 y2) (by rfl) (fun W hW => ?_) ?_
    · have hc : W.cell? ⟨w.heap.size, 2, none⟩ = some (.int .u16 y2) := (HKP2.out W hW).2.1 2 _ rfl
      go_simp
    go_simp
    refine hK _ ?_
    clear hK K
    refine wpQuiet_step (fun K hK => ?_)
    refine quiet_if (.bool true) (by rfl) (fun W hW => ?_) ?_
    · go_simp
    go_simp
    refine hK _ ?_
    clear hK K
    refine wpQuiet_step (fun K hK => ?_)
    refine quiet_if (.bool true) (by rfl) (fun W hW => ?_) ?_
    · go_simp
    go_simp
    refine hK _ ?_
    clear hK K
    refine wpQuiet_step (fun K hK => ?_)
    refine quiet_if (.bool true) (by rfl) (fun W hW => ?_) ?_
    · exact ⟨rfl, rfl⟩
    go_simp
    refine hK _ ?_
    clear hK K
    refine wpQuiet_step (fun K hK => ?_)
    refine quiet_if (.pointer (some ⟨q10, 0, none⟩)) (by rfl) (fun W hW => ?_) ?_
    · go_simp
    go_simp
    refine hK _ ?_
    clear hK K
    refine wpQuiet_step (fun K hK => ?_)
    refine quiet_if (.int .u16 y0) (by rfl) (fun W hW => ?_) ?_
    · have hc : W.cell? ⟨q10, 0, none⟩ = some (.int .u16 y0) := (HKP2.out W hW).2.2.2.2.1 0 _ rfl
      go_simp
    go_simp
    refine hK _ ?_
    clear hK K
    refine wpQuiet_step (fun K hK => ?_)
    refine quiet_if (.pointer (some ⟨w.heap.size, 0, none⟩)) (by rfl) (fun W hW => ?_) ?_
    · go_simp
    go_simp
    refine hK _ ?_
    clear hK K
    refine wpQuiet_step (fun K hK => ?_)
    refine quiet_if (.int .u16 tag) (by rfl) (fun W hW => ?_) ?_
    · have hc : W.cell? ⟨w.heap.size, 0, none⟩ = some (.int .u16 tag) := (HKP2.out W hW).2.1 0 _ rfl
      go_simp
    go_simp
    refine hK _ ?_
    clear hK K
    refine wpQuiet_step (fun K hK => ?_)
    refine quiet_if (.int .u16 y0) (by rfl) (fun W hW => ?_) ?_
    · have hq := TA.out
      go_simp
    go_simp
    refine hK _ ?_
    clear hK K
    refine wpQuiet_step (fun K hK => ?_)
    refine quiet_if (.bool true) (by rfl) (fun W hW => ?_) ?_
    · go_simp
    go_simp
    refine hK _ ?_
    clear hK K
    refine wpQuiet_step (fun K hK => ?_)
    refine quiet_if (.bool true) (by rfl) (fun W hW => ?_) ?_
    · go_simp
    go_simp
    refine hK _ ?_
    clear hK K
    refine wpQuiet_step (fun K hK => ?_)
    refine quiet_if (.bool true) (by rfl) (fun W hW => ?_) ?_
    · exact ⟨rfl, rfl⟩
    go_simp
    refine hK _ ?_
    clear hK K
    refine wpQuiet_step (fun K hK => ?_)
    refine quiet_if (.pointer (some ⟨q10, 3, none⟩)) (by rfl) (fun W hW => ?_) ?_
    · go_simp
    go_simp
    refine hK _ ?_
    clear hK K
    refine wpQuiet_step (fun K hK => ?_)
    refine quiet_if (.int .u64 y3) (by rfl) (fun W hW => ?_) ?_
    · have hc : W.cell? ⟨q10, 3, none⟩ = some (.int .u64 y3) := (HKP2.out W hW).2.2.2.2.1 3 _ rfl
      go_simp
    go_simp
    refine hK _ ?_
    clear hK K
    refine wpQuiet_step (fun K hK => ?_)
    refine quiet_if (.pointer (some ⟨w.heap.size, 3, none⟩)) (by rfl) (fun W hW => ?_) ?_
    · go_simp
    go_simp
    refine hK _ ?_
    clear hK K
    refine wpQuiet_step (fun K hK => ?_)
    refine quiet_if (.int .u64 turn) (by rfl) (fun W hW => ?_) ?_
    · have hc : W.cell? ⟨w.heap.size, 3, none⟩ = some (.int .u64 turn) := (HKP2.out W hW).2.1 3 _ rfl
      go_simp
    go_simp
    refine hK _ ?_
    clear hK K
    refine wpQuiet_step (fun K hK => ?_)
    refine quiet_if (.int .u64 y3) (by rfl) (fun W hW => ?_) ?_
    · have hq := TN.out
      go_simp
    go_simp
    refine hK _ ?_
    clear hK K
    refine wpQuiet_step (fun K hK => ?_)
    refine quiet_if (.bool true) (by rfl) (fun W hW => ?_) ?_
    · go_simp
    go_simp
    refine hK _ ?_
    clear hK K
    refine wpQuiet_step (fun K hK => ?_)
    refine quiet_if (.bool true) (by rfl) (fun W hW => ?_) ?_
    · go_simp
    go_simp
    refine hK _ ?_
    clear hK K
    refine wpQuiet_step (fun K hK => ?_)
    refine quiet_if (.bool true) (by rfl) (fun W hW => ?_) ?_
    · exact ⟨rfl, rfl⟩
    go_simp
    refine hK _ ?_
    clear hK K
    refine wpQuiet_step (fun K hK => ?_)
    refine quiet_if (.int .i64 40) (by rfl) (fun W hW => ?_) ?_
    · exact ⟨rfl, rfl⟩
    go_simp
    refine hK _ ?_
    clear hK K
    refine wpQuiet_step (fun K hK => ?_)
    refine quiet_if (.bool true) (by rfl) (fun W hW => ?_) ?_
    · go_simp
    go_simp
    refine hK _ ?_
    clear hK K
    refine wpQuiet_step (fun K hK => ?_)
    refine quiet_if (.bool true) (by rfl) (fun W hW => ?_) ?_
    · exact ⟨rfl, rfl⟩
    go_simp
    refine hK _ ?_
    clear hK K
    refine wpQuiet_step (fun K hK => ?_)
    refine quiet_if_not (by rfl) ?_
    refine hK _ ?_
    clear hK K
    refine wpQuiet_step (fun K hK => ?_)
    refine quiet_if_not (by rfl) ?_
    refine hK _ ?_
    clear hK K
    refine wpQuiet_step (fun K hK => ?_)
    refine quiet_if_not (by rfl) ?_
    refine hK _ ?_
    clear hK K
    refine wpQuiet_step (fun K hK => ?_)
    refine quiet_if_not (by rfl) ?_
    refine hK _ ?_
    clear hK K
    refine wpQuiet_step (fun K hK => ?_)
    refine quiet_if (.bool true) (by rfl) (fun W hW => ?_) ?_
    · go_simp
    go_simp
    refine hK _ ?_
    clear hK K
    refine wpQuiet_step (fun K hK => ?_)
    refine quiet_if (.bool true) (by rfl) (fun W hW => ?_) ?_
    · go_simp
    go_simp
    refine hK _ ?_
    clear hK K
    refine wpQuiet_step (fun K hK => ?_)
    refine quiet_if (.bool true) (by rfl) (fun W hW => ?_) ?_
    · exact ⟨rfl, rfl⟩
    go_simp
    refine hK _ ?_
    clear hK K
    refine wpQuiet_nil (fun v13 hW => ?_)
    go_wp2
    go_ret
    exact ⟨rfl, HS12.out.trans hW⟩
  · subst hz
    clear HZZ
    have HE3 : Hid (∀ W, Calls Tryd.prog 17 #[.agg #[.int .u16 x0, .int .u32 x1, .int .u16 x2, .int .u64 x3]] W fun e w' => e = .returned (.agg (bytesV X)) ∧ Spares nowhere W w') := Lib.hid (fun W => by
      rw [← hxx]; exact entry_any x0 x1 x2 x3 (x0 % 4096) (orTop x3) W (tag_and g1) (top_or g4) g1 g2 g3 (by omega))
    have kX := key16_equal X X HX.out HX.out
    rw [decide_eq_true rfl] at kX
    clear hxx
    refine wp_region_quiet (C := fun W => Spares nowhere v12 W) (by kernel_rfl) (by kernel_rfl) (Spares.refl nowhere v12).drew ?_
    refine wpQuiet_step (fun K hK => ?_)
    refine quiet_if (.int .i64 0) (by rfl) (fun W hW => ?_) ?_
    · exact ⟨rfl, rfl⟩
    go_simp
    refine hK _ ?_
    clear hK K
    refine wpQuiet_step (fun K hK => ?_)
    refine quiet_if (.bool true) (by rfl) (fun W hW => ?_) ?_
    · go_simp
    go_simp
    refine hK _ ?_
    clear hK K
    refine wpQuiet_step (fun K hK => ?_)
    refine quiet_if (.bool true) (by rfl) (fun W hW => ?_) ?_
    · exact ⟨rfl, rfl⟩
    go_simp
    refine hK _ ?_
    clear hK K
    refine wpQuiet_step (fun K hK => ?_)
    refine quiet_if (.pointer (some ⟨q10, 1, none⟩)) (by rfl) (fun W hW => ?_) ?_
    · go_simp
    go_simp
    refine hK _ ?_
    clear hK K
    refine wpQuiet_step (fun K hK => ?_)
    refine quiet_if (.int .u32 y1) (by rfl) (fun W hW => ?_) ?_
    · have hc : W.cell? ⟨q10, 1, none⟩ = some (.int .u32 y1) := (HKP2.out W hW).2.2.2.2.1 1 _ rfl
      go_simp
    go_simp
    refine hK _ ?_
    clear hK K
    refine wpQuiet_step (fun K hK => ?_)
    refine quiet_if (.pointer (some ⟨w.heap.size, 1, none⟩)) (by rfl) (fun W hW => ?_) ?_
    · go_simp
    go_simp
    refine hK _ ?_
    clear hK K
    refine wpQuiet_step (fun K hK => ?_)
    refine quiet_if (.int .u32 y1) (by rfl) (fun W hW => ?_) ?_
    · have hc : W.cell? ⟨w.heap.size, 1, none⟩ = some (.int .u32 y1) := (HKP2.out W hW).2.1 1 _ rfl
      go_simp
    go_simp
    refine hK _ ?_
    clear hK K
    refine wpQuiet_step (fun K hK => ?_)
    refine quiet_if (.bool true) (by rfl) (fun W hW => ?_) ?_
    · go_simp
    go_simp
    refine hK _ ?_
    clear hK K
    refine wpQuiet_step (fun K hK => ?_)
    refine quiet_if (.bool true) (by rfl) (fun W hW => ?_) ?_
    · go_simp
    go_simp
    refine hK _ ?_
    clear hK K
    refine wpQuiet_step (fun K hK => ?_)
    refine quiet_if (.bool true) (by rfl) (fun W hW => ?_) ?_
    · exact ⟨rfl, rfl⟩
    go_simp
    refine hK _ ?_
    clear hK K
    refine wpQuiet_step (fun K hK => ?_)
    refine quiet_if (.pointer (some ⟨q10, 2, none⟩)) (by rfl) (fun W hW => ?_) ?_
    · go_simp
    go_simp
    refine hK _ ?_
    clear hK K
    refine wpQuiet_step (fun K hK => ?_)
    refine quiet_if (.int .u16 y2) (by rfl) (fun W hW => ?_) ?_
    · have hc : W.cell? ⟨q10, 2, none⟩ = some (.int .u16 y2) := (HKP2.out W hW).2.2.2.2.1 2 _ rfl
      go_simp
    go_simp
    refine hK _ ?_
    clear hK K
    refine wpQuiet_step (fun K hK => ?_)
    refine quiet_if (.pointer (some ⟨w.heap.size, 2, none⟩)) (by rfl) (fun W hW => ?_) ?_
    · go_simp
    go_simp
    refine hK _ ?_
    clear hK K
    refine wpQuiet_step (fun K hK => ?_)
    refine quiet_if (.int .u16 y2) (by rfl) (fun W hW => ?_) ?_
    · have hc : W.cell? ⟨w.heap.size, 2, none⟩ = some (.int .u16 y2) := (HKP2.out W hW).2.1 2 _ rfl
      go_simp
    go_simp
    refine hK _ ?_
    clear hK K
    refine wpQuiet_step (fun K hK => ?_)
    refine quiet_if (.bool true) (by rfl) (fun W hW => ?_) ?_
    · go_simp
    go_simp
    refine hK _ ?_
    clear hK K
    refine wpQuiet_step (fun K hK => ?_)
    refine quiet_if (.bool true) (by rfl) (fun W hW => ?_) ?_
    · go_simp
    go_simp
    refine hK _ ?_
    clear hK K
    refine wpQuiet_step (fun K hK => ?_)
    refine quiet_if (.bool true) (by rfl) (fun W hW => ?_) ?_
    · exact ⟨rfl, rfl⟩
    go_simp
    refine hK _ ?_
    clear hK K
    refine wpQuiet_step (fun K hK => ?_)
    refine quiet_if (.pointer (some ⟨q10, 0, none⟩)) (by rfl) (fun W hW => ?_) ?_
    · go_simp
    go_simp
    refine hK _ ?_
    clear hK K
    refine wpQuiet_step (fun K hK => ?_)
    refine quiet_if (.int .u16 y0) (by rfl) (fun W hW => ?_) ?_
    · have hc : W.cell? ⟨q10, 0, none⟩ = some (.int .u16 y0) := (HKP2.out W hW).2.2.2.2.1 0 _ rfl
      go_simp
    go_simp
    refine hK _ ?_
    clear hK K
    refine wpQuiet_step (fun K hK => ?_)
    refine quiet_if (.pointer (some ⟨w.heap.size, 0, none⟩)) (by rfl) (fun W hW => ?_) ?_
    · go_simp
    go_simp
    refine hK _ ?_
    clear hK K
    refine wpQuiet_step (fun K hK => ?_)
    refine quiet_if (.int .u16 tag) (by rfl) (fun W hW => ?_) ?_
    · have hc : W.cell? ⟨w.heap.size, 0, none⟩ = some (.int .u16 tag) := (HKP2.out W hW).2.1 0 _ rfl
      go_simp
    go_simp
    refine hK _ ?_
    clear hK K
    refine wpQuiet_step (fun K hK => ?_)
    refine quiet_if (.int .u16 y0) (by rfl) (fun W hW => ?_) ?_
    · have hq := TA.out
      go_simp
    go_simp
    refine hK _ ?_
    clear hK K
    refine wpQuiet_step (fun K hK => ?_)
    refine quiet_if (.bool true) (by rfl) (fun W hW => ?_) ?_
    · go_simp
    go_simp
    refine hK _ ?_
    clear hK K
    refine wpQuiet_step (fun K hK => ?_)
    refine quiet_if (.bool true) (by rfl) (fun W hW => ?_) ?_
    · go_simp
    go_simp
    refine hK _ ?_
    clear hK K
    refine wpQuiet_step (fun K hK => ?_)
    refine quiet_if (.bool true) (by rfl) (fun W hW => ?_) ?_
    · exact ⟨rfl, rfl⟩
    go_simp
    refine hK _ ?_
    clear hK K
    refine wpQuiet_step (fun K hK => ?_)
    refine quiet_if (.pointer (some ⟨q10, 3, none⟩)) (by rfl) (fun W hW => ?_) ?_
    · go_simp
    go_simp
    refine hK _ ?_
    clear hK K
    refine wpQuiet_step (fun K hK => ?_)
    refine quiet_if (.int .u64 y3) (by rfl) (fun W hW => ?_) ?_
    · have hc : W.cell? ⟨q10, 3, none⟩ = some (.int .u64 y3) := (HKP2.out W hW).2.2.2.2.1 3 _ rfl
      go_simp
    go_simp
    refine hK _ ?_
    clear hK K
    refine wpQuiet_step (fun K hK => ?_)
    refine quiet_if (.pointer (some ⟨w.heap.size, 3, none⟩)) (by rfl) (fun W hW => ?_) ?_
    · go_simp
    go_simp
    refine hK _ ?_
    clear hK K
    refine wpQuiet_step (fun K hK => ?_)
    refine quiet_if (.int .u64 turn) (by rfl) (fun W hW => ?_) ?_
    · have hc : W.cell? ⟨w.heap.size, 3, none⟩ = some (.int .u64 turn) := (HKP2.out W hW).2.1 3 _ rfl
      go_simp
    go_simp
    refine hK _ ?_
    clear hK K
    refine wpQuiet_step (fun K hK => ?_)
    refine quiet_if (.int .u64 y3) (by rfl) (fun W hW => ?_) ?_
    · have hq := TN.out
      go_simp
    go_simp
    refine hK _ ?_
    clear hK K
    refine wpQuiet_step (fun K hK => ?_)
    refine quiet_if (.bool true) (by rfl) (fun W hW => ?_) ?_
    · go_simp
    go_simp
    refine hK _ ?_
    clear hK K
    refine wpQuiet_step (fun K hK => ?_)
    refine quiet_if (.bool true) (by rfl) (fun W hW => ?_) ?_
    · go_simp
    go_simp
    refine hK _ ?_
    clear hK K
    refine wpQuiet_step (fun K hK => ?_)
    refine quiet_if (.bool true) (by rfl) (fun W hW => ?_) ?_
    · exact ⟨rfl, rfl⟩
    go_simp
    refine hK _ ?_
    clear hK K
    refine wpQuiet_step (fun K hK => ?_)
    refine quiet_if (.int .i64 0) (by rfl) (fun W hW => ?_) ?_
    · exact ⟨rfl, rfl⟩
    go_simp
    refine hK _ ?_
    clear hK K
    refine wpQuiet_step (fun K hK => ?_)
    refine quiet_if (.bool false) (by rfl) (fun W hW => ?_) ?_
    · go_simp
    go_simp
    refine hK _ ?_
    clear hK K
    refine wpQuiet_step (fun K hK => ?_)
    refine quiet_if (.bool false) (by rfl) (fun W hW => ?_) ?_
    · exact ⟨rfl, rfl⟩
    go_simp
    refine hK _ ?_
    clear hK K
    refine wpQuiet_step (fun K hK => ?_)
    refine quiet_if (.agg #[.int .u16 x0, .int .u32 x1, .int .u16 x2, .int .u64 x3]) (by rfl) (fun W hW => ?_) ?_
    · exact quiet_load 44 (.tmp 6) rfl q6 0 rfl [.int .u16 x0, .int .u32 x1, .int .u16 x2, .int .u64 x3] _ W (HKP2.out W hW).2.2.1 Tryd.underlying44 rfl HIE.out
    go_simp
    refine hK _ ?_
    clear hK K
    refine wpQuiet_step (fun K hK => ?_)
    refine quiet_if (.agg (bytesV X)) (by rfl) (fun W hW => ?_) ?_
    · go_simp
      refine (HE3.out W).mono ?_
      rintro e W' ⟨rfl, h⟩
      exact ⟨rfl, hW.trans h⟩
    go_simp
    refine hK _ ?_
    clear hK K
    refine wpQuiet_step (fun K hK => ?_)
    refine quiet_if (.agg (bytesV X)) (by rfl) (fun W hW => ?_) ?_
    · exact quiet_load 45 (.tmp 3) rfl (w.heap.size + 1) 0 rfl (Lib.byteCells X) _ W (HKP2.out W hW).2.2.2.2.2 Tryd.underlying45 rfl HI16.out
    go_simp
    refine hK _ ?_
    clear hK K
    refine wpQuiet_step (fun K hK => ?_)
    refine quiet_if (.bool true) (by rfl) (fun W hW => ?_) ?_
    · have h1 := kX W
      go_simp
    go_simp
    refine hK _ ?_
    clear hK K
    refine wpQuiet_step (fun K hK => ?_)
    refine quiet_if (.bool true) (by rfl) (fun W hW => ?_) ?_
    · go_simp
    go_simp
    refine hK _ ?_
    clear hK K
    refine wpQuiet_step (fun K hK => ?_)
    refine quiet_if (.bool true) (by rfl) (fun W hW => ?_) ?_
    · go_simp
    go_simp
    refine hK _ ?_
    clear hK K
    refine wpQuiet_step (fun K hK => ?_)
    refine quiet_if (.bool true) (by rfl) (fun W hW => ?_) ?_
    · exact ⟨rfl, rfl⟩
    go_simp
    refine hK _ ?_
    clear hK K
    refine wpQuiet_nil (fun v13 hW => ?_)
    go_wp2
    go_ret
    exact ⟨rfl, HS12.out.trans hW⟩
end Go.Proofs.YtimpnnhadjfijaaDoor
