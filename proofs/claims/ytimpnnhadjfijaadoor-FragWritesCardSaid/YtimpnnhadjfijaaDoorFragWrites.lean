/-
  FragWrites: any fragment is written as the document's bytes, and read back, whatever stands behind.
-/
import Derived.Test.YtimpnnhadjfijaaDoorFragRefFrag
import Derived.Test.YtimpnnhadjfijaaDoorZeros
namespace Go.Proofs.YtimpnnhadjfijaaDoor
open Go.RowKit CrcMath

set_option maxHeartbeats 1000000 in
theorem bytesW_any (x : List UInt8) (a b : Option Addr) (n m c d : Nat) (w : World) (hx : BytesAt w a x) (hy : BytesAt w b x) (hn : n = x.length) (hm : m = x.length) :
    Calls Tryd.prog 11 #[.slice a n c, .slice b m d] w fun e w' => e = .returned (.bool true) ∧ w = w' := by
  subst hn; subst hm
  have q1 := conv_bytes hx c
  have q2 := conv_bytes hy d
  clear hx hy
  go_enter Tryd.func11, Tryd.ntmps11
  go_wp2
  go_ret
  exact ⟨rfl, rfl⟩
theorem remW_nat (k n : Nat) : ((k : Int).tmod (n : Int)) = ((k % n : Nat) : Int) := by rw [Int.tmod_eq_emod_of_nonneg (by omega)]; simp

/-- append(v, make([]byte, k)...). -/
theorem zeros_run {B : Nat} {w : World} {v : Value} {d : List UInt8} (h : Row8 B w v d) (k : Nat) (hk : 0 < k) (hlen : d.length + k ≤ 140737488355328) (ty : TypeId) :
    ∃ ao c' w', (Builtin.append_ #[27, 3] ty #[v, .int .i64 k]).run Tryd.prog w = .ok (.slice ao (d.length + k) c') w' ∧ BytesAt w' ao (d ++ List.replicate k 0) ∧ (ao = none → c' = 0) ∧ d.length + k ≤ c' ∧ Spares (atLeast B) w w' := by
  obtain ⟨ao, c', w', h1, h2, h3, _⟩ := append_zeros h.own k hk hlen ty
  obtain ⟨a2, c2, e, _, _⟩ := OwnBytes.shape h2
  refine ⟨ao, c', w', h1, h2.bytes.1, h2.bytes.2, ?_, row8_grown h h3⟩
  rcases h2.2 with ⟨e, e2⟩ | ⟨g, cap, cur, e, _, _, hc, _⟩
  · injection e with e1 e2 e3; simp at e2; omega
  · injection e with e1 e2 e3; subst e3; rw [List.length_append, List.length_replicate] at hc; exact hc
theorem zeros_none (a : Option Addr) (n c : Nat) (h : n ≤ c) (ty : TypeId) (w : World) : (Builtin.append_ #[27, 3] ty #[.slice a n c, .int .i64 0]).run Tryd.prog w = .ok (.slice a n c) w := by
  have hw : IntKind.i64.wrap 0 = 0 := by decide
  cases a <;> simp [Builtin.append_, run_underlying Tryd.underlying27, run_underlying Tryd.underlying3, asInt, asIntOf, hw, h, go_sem, storeCells, Question.forced]
theorem zeros_any {B : Nat} {w : World} {v : Value} {d : List UInt8} (h : Row8 B w v d) (k : Nat) (hlen : d.length + k ≤ 140737488355328) (ty : TypeId) :
    ∃ ao c' w', (Builtin.append_ #[27, 3] ty #[v, .int .i64 k]).run Tryd.prog w = .ok (.slice ao (d.length + k) c') w' ∧ BytesAt w' ao (d ++ List.replicate k 0) ∧ (ao = none → c' = 0) ∧ d.length + k ≤ c' ∧ Spares (atLeast B) w w' := by
  by_cases hk : 0 < k
  · exact zeros_run h k hk hlen ty
  · obtain rfl : k = 0 := by omega
    obtain ⟨ao, c', rfl, h1, h2, h3⟩ := h.shape
    exact ⟨ao, c', w, zeros_none ao d.length c' h3 ty w, by simpa using h1, h2, by omega, Spares.refl _ _⟩
/-- append(v, make([]byte, k)...), in the walk. -/
theorem wpList_row_zeros {w : World} {ops : Array Oper} {rest : List Oper} {o : Oper} {a : Act} {Q : Exit → Act → World → Prop} (hgd : o.guard = none) (s x : Operand)
    (ho : o.op = .call { callee := .builtin .append, args := #[s, x], argTypes := #[27, 3] })
    (B : Nat) (v : Value) (d : List UInt8) (hs : a.eval s = v) (hown : Row8 B w v d) (k : Nat) (hx : a.eval x = .int .i64 k) (hlen : d.length + k ≤ 140737488355328)
    (hK : ∀ ao c' w', BytesAt w' ao (d ++ List.replicate k 0) → (ao = none → c' = 0) → d.length + k ≤ c' → Spares (atLeast B) w w' → wpList Tryd.prog ops Q rest (a.put o.dst (.slice ao (d.length + k) c')) w') : wpList Tryd.prog ops Q (o :: rest) a w := by
  obtain ⟨ao, c', w', h1, h2, h3, h4, h5⟩ := zeros_any hown k hlen o.type
  exact Lib.wpList_append_run w hgd s x 27 3 ho v (.int .i64 k) hs hx _ w' h1 (hK ao c' w' h2 h3 h4 h5)

set_option maxRecDepth 100000 in
set_option maxHeartbeats 8000000 in
theorem writes_any (F : FragD) (a a' : Option Addr) (n c n' c' : Nat) (l l' : List UInt8) (more : Nat) (w : World) (hT : Steps w) (hK : F.K.length = 32) (hS : F.S.length = 32) (ht : F.turn < 18446744073709551616) (hl : BytesAt w a l) (hn : n = l.length) (hnil : a = none → c = 0) (_hnc : n ≤ c) (hmax : n < 9223372036854775808)
    (hl' : BytesAt w a' l') (hn' : n' = l'.length) (hnil' : a' = none → c' = 0) (hmax' : n' < 9223372036854775808) (_hmore : more < 65536) :
    Calls Tryd.prog 3 #[.agg (fragA F), .slice a n c, .slice a' n' c', .int .u16 more] w (Knows w) := by
  obtain ⟨P, hP, hPl⟩ := part_nat F.part
  obtain ⟨v1, hv1⟩ : ∃ v1, w.alloc (.cells (fragA F) 26) = v1 := ⟨_, rfl⟩
  have HV1 := Lib.hid hv1
  have hs1 : Spares nowhere w v1 := by rw [← hv1]; exact (Spares.refl _ w).alloc _
  have HG1 : Hid (v1.heap[w.heap.size]? = some (.cells (fragA F) 26 (0, 0))) := Lib.hid (by rw [← hv1]; exact heap_alloc_new w _)
  have HK1 := Lib.hid (known_any v1 (hT.spares hs1 (fun h => h)))
  have HS1 := Lib.hid hs1
  have HT := Lib.hid hT
  have HL := Lib.hid hl
  have HL' := Lib.hid hl'
  have HN := Lib.hid hn
  have HN' := Lib.hid hn'
  have HNIL := Lib.hid hnil
  have HNIL' := Lib.hid hnil'
  have HK := Lib.hid hK
  have HS := Lib.hid hS
  have HTU := Lib.hid ht
  have HP := Lib.hid hP
  have HPL := Lib.hid hPl
  have HI := Lib.hid (sizeFrag F hK hS)
  obtain ⟨k, hk⟩ : ∃ k, more % 5000 = k := ⟨_, rfl⟩
  have q1 : (more : Int).tmod 5000 = (k : Int) := by rw [← hk]; exact remW_nat more 5000
  have q2 : (more : Int) % 5000 = (k : Int) := by omega
  have hk5 : k < 5000 := by omega
  have q3 : IntKind.i64.wrap (k : Int) = (k : Int) := by rw [IntKind.wrap_i64]; omega
  clear hv1 hs1 hT hl hl' hn hn' hnil hnil' hK hS hk _hmore ht hP hPl
  go_enter Tryd.func3, Tryd.ntmps3
  go_wp2_with fail
  change Calls _ _ _ (w.alloc (.cells (fragA F) 26)) _
  rw [HV1.out]
  refine HK1.out.mono ?_
  rintro e v2 ⟨rfl, hs2⟩
  have HS2 := Lib.hid (HS1.out.trans hs2)
  have HG2 := Lib.hid (hs2.heap HG1.out (fun h => h))
  clear hs2 HK1
  by_cases hbig : 500 < n
  · have i1 : (500 : Int) < (n : Int) := by omega
    have i1b : decide ((500 : Int) < (n : Int)) = true := decide_eq_true i1
    go_wp2
    go_ret
    exact ⟨rfl, HS2.out⟩
  have i1 : ¬ (500 : Int) < (n : Int) := by omega
  have i1b : decide ((500 : Int) < (n : Int)) = false := decide_eq_false i1
  by_cases hbig' : 100 < n'
  · have i2 : (100 : Int) < (n' : Int) := by omega
    have i2b : decide ((100 : Int) < (n' : Int)) = true := decide_eq_true i2
    go_wp2
    go_ret
    exact ⟨rfl, HS2.out⟩
  have i2 : ¬ (100 : Int) < (n' : Int) := by omega
  have i2b : decide ((100 : Int) < (n' : Int)) = false := decide_eq_false i2
  have hl0 : l.length + k ≤ 140737488355328 := by have := HN.out; omega
  go_upto_region 6 with (first
    | ((with_reducible show wpList _ _ _ (⟨some 28, _, _, _, _, _⟩ :: _) _ _); refine wpList_row_bytes rfl _ _ rfl v2.heap.size _ [] rfl (row8_nil _ _) a c n l rfl HN.out (HL.out.spares HS2.out (fun _ _ _ h => h)) HNIL.out (by simp; omega) (Nat.le_refl _) ?_; intro u3 v3 hr3 hs3; have HR3 := Lib.hid hr3; have HS3 := Lib.hid hs3; clear hr3 hs3)
    | ((with_reducible show wpList _ _ _ (⟨some 32, _, _, _, _, _⟩ :: _) _ _); refine wpList_row_zeros rfl _ _ rfl v2.heap.size u3 l rfl HR3.out k rfl hl0 ?_; intro a4 c4 v4 hb4 hn4 hc4 hs4; have HB4 := Lib.hid hb4; have HN4 := Lib.hid hn4; have HC4 := Lib.hid hc4; have HS4 := Lib.hid hs4; clear hb4 hn4 hc4 hs4)
    | fail)
  obtain ⟨p, hp⟩ : ∃ p, l ++ List.replicate k (0 : UInt8) = p := ⟨_, rfl⟩
  obtain ⟨pn, hpn⟩ : ∃ pn, l.length + k = pn := ⟨_, rfl⟩
  have hpl : p.length = pn := by rw [← hp, ← hpn]; simp
  have hpm : pn ≤ 5500 := by have := HN.out; omega
  rw [hp] at HB4
  rw [hpn]
  rw [hpn] at HC4
  have HPL2 := Lib.hid hpl
  have hs24 : Spares nowhere v2 v4 := (HS3.out.mono (fun b hb => .inr hb)).trans' HS4.out (fun b hb => .inr hb)
  have HS24 := Lib.hid (HS2.out.trans hs24)
  have HG4 := Lib.hid (hs24.heap HG2.out (fun h => h))
  clear hp hpn hpl hs24 hl0 HR3 HS3 HS4 HS2 HG2
  obtain ⟨s, hs⟩ : ∃ s, min pn 4096 = s := ⟨_, rfl⟩
  have HF := Lib.hid (frag_any F P s a4 pn c4 p v4 (HT.out.spares HS24.out (fun h => h)) HB4.out HPL2.out.symm HN4.out HC4.out (by omega) HK.out HS.out HP.out hs)
  have hbl : (p.take s).length = s := by rw [List.length_take]; have := HPL2.out; omega
  have hlen := fragB_len F.K P F.last F.turn (p.take s) HK.out
  have hr1 := round (K := F.K) (P := P) (last := F.last) (turn := F.turn) (body := p.take s) (X := l') HK.out HPL.out HTU.out (by omega)
  have hr2 := round (K := F.K) (P := P) (last := F.last) (turn := F.turn) (body := p.take s) (X := []) HK.out HPL.out HTU.out (by omega)
  obtain ⟨L, hL⟩ : ∃ L, fragB F.K P F.last F.turn (p.take s) = L := ⟨_, rfl⟩
  rw [hL] at HF hlen hr1 hr2
  rw [List.append_nil] at hr2
  obtain ⟨D, hD⟩ : ∃ D : FragD, ({ K := F.K, part := (P : Int), last := F.last, size := ((p.take s).length : Int), S := shaF (p.take s), turn := F.turn } : FragD) = D := ⟨_, rfl⟩
  have hDK : D.K.length = 32 := by rw [← hD]; exact HK.out
  have hDS : D.S.length = 32 := by rw [← hD]; exact shaF_len _
  rw [hD] at hr1 hr2
  obtain ⟨m, hm⟩ : ∃ m, L.length = m := ⟨_, rfl⟩
  have hm2 : m ≤ 4185 := by omega
  have H1 := Lib.hid hr1
  have H2 := Lib.hid hr2
  have HSL := Lib.hid hs
  have HBL := Lib.hid hbl
  have HLL := Lib.hid hL
  have HM := Lib.hid hm
  clear hr1 hr2 hlen hL hm hD hs hbl
  go_wp2_with ((with_reducible show wpList _ _ _ (⟨some 33, .load 26 _, _, _, _, _⟩ :: _) _ _); refine wpList_load_row rfl 26 (.tmp 4) rfl w.heap.size rfl 26 _ (0, 0) _ HG4.out Tryd.underlying26 rfl HI.out ?_)
  refine HF.out.mono ?_
  rintro e v5 ⟨a5, c5, rfl, ho5, hs5, _⟩
  rw [HM.out] at ho5
  rw [HM.out]
  obtain ⟨_, _, e5, hat5, hn5, hc5⟩ := Row8.shape (B := 0) (show Row8 0 v5 _ L from ho5)
  injection e5 with e51 e52 e53
  subst e51; subst e53
  rw [HM.out] at hc5
  have HS5 := Lib.hid (HS24.out.trans hs5)
  have HG5 := Lib.hid (hs5.heap HG4.out (fun h => h))
  have HA5 := Lib.hid hat5
  have HN5 := Lib.hid hn5
  have HRF : Hid (Calls Tryd.prog 12 #[.agg (fragA F), .slice a4 pn c4] v5 (FragPost L v5)) := Lib.hid (by
    have := refFrag_any F P s a4 pn c4 p v5 (HB4.out.spares hs5 (fun _ _ _ h => h)) HPL2.out.symm HN4.out HC4.out (by omega) HK.out HS.out HP.out HSL.out
    rw [HLL.out] at this
    exact this)
  clear ho5 hs5 e52 hat5 hn5 HF HG4 HB4 HS24
  go_wp2_with ((with_reducible show wpList _ _ _ (⟨some 37, .load 26 _, _, _, _, _⟩ :: _) _ _); refine wpList_load_row rfl 26 (.tmp 4) rfl w.heap.size rfl 26 _ (0, 0) _ HG5.out Tryd.underlying26 rfl HI.out ?_)
  refine HRF.out.mono ?_
  rintro e v6 ⟨a6, c6, rfl, ho6, hs6, _⟩
  rw [HM.out] at ho6
  rw [HM.out]
  have HS6 := Lib.hid (HS5.out.trans hs6)
  have HA6 := Lib.hid (HA5.out.spares hs6 (fun _ _ _ h => h))
  have HBY := Lib.hid (bytesW_any L a5 a6 m m c5 c6 v6 HA6.out (ho6.bytes (n := m) (l := L)).1 HM.out.symm HM.out.symm)
  clear ho6 hs6 HRF HG5 HA5 HS5
  go_wp2_with fail
  refine HBY.out.mono ?_
  rintro e v6' ⟨rfl, hv66⟩
  subst hv66
  clear HBY
  obtain ⟨N8, hN8⟩ : ∃ N, (L ++ l').length = N := ⟨_, rfl⟩
  have hN8b : N8 ≤ 4285 := by rw [← hN8, List.length_append, HM.out]; have := HN'.out; omega
  have HN8 := Lib.hid hN8
  have HX6 := Lib.hid (HL'.out.spares HS6.out (fun _ _ _ h => h))
  have hlm : L.length + n' ≤ 140737488355328 := by rw [HM.out]; omega
  have HLM := Lib.hid hlm
  clear hN8 hlm
  go_wp2_with (first
    | ((with_reducible show wpList _ _ _ (⟨some 44, _, _, _, _, _⟩ :: _) _ _); refine wpList_row_bytes rfl _ _ rfl v6.heap.size _ [] rfl (row8_nil _ _) a5 c5 m L rfl HM.out.symm HA6.out HN5.out (by simp; omega) (Nat.le_refl _) ?_; intro u7 v7 hr7 hs7; have HR7 := Lib.hid hr7; have HB7 := Lib.hid (Nat.le_trans (Nat.le_refl v6.heap.size) hs7.size); have hs67 := hs7.mono (F' := nowhere) (fun b hb => .inr hb); have HX7 := Lib.hid (HX6.out.spares hs67 (fun _ _ _ h => h)); have HS67 := Lib.hid hs67; clear hr7 hs7 hs67)
    | ((with_reducible show wpList _ _ _ (⟨some 46, _, _, _, _, _⟩ :: _) _ _); refine wpList_row_bytes rfl _ _ rfl v6.heap.size u7 L rfl HR7.out a' c' n' l' rfl HN'.out HX7.out HNIL'.out HLM.out HB7.out ?_; intro u8 v8 hr8 hs8; obtain ⟨a8, c8, hu8, hat8, _, hcc8⟩ := hr8.shape; rw [HN8.out] at hu8 hcc8; subst hu8; have HA8 := Lib.hid hat8; have HS68 := Lib.hid (HS67.out.trans' hs8 (fun b hb => .inr hb)); clear hr8 hs8 hat8)
    | fail)
  have HS8 := Lib.hid (HS6.out.trans HS68.out)
  have HA5b := Lib.hid (HA6.out.spares HS68.out (fun _ _ _ h => h))
  have HOP := Lib.hid (openFrag_any a8 N8 c8 (L ++ l') v8 (HT.out.spares HS8.out (fun h => h)) HA8.out HN8.out.symm hcc8 (by omega))
  clear HS67 HS68 HR7 HX7 HX6 HA8
  refine HOP.out.mono ?_
  rintro e v9 ⟨a9, c9, rfl, hb9, _, hs9⟩
  rw [H1.out.1, H1.out.2.1, H1.out.2.2, HBL.out]
  rw [H1.out.2.1] at hb9
  obtain ⟨d1, d2, d3⟩ := frag_new (w := v9) (G := D) hDK hDS
  obtain ⟨q9, hq9⟩ : ∃ q, v9.heap.size = q := ⟨_, rfl⟩
  obtain ⟨v10, hv10⟩ : ∃ v10, (v9.alloc (.cells (fragA zeroD) 26)).setCells q9 0 (fragA D).toList = v10 := ⟨_, rfl⟩
  rw [hq9] at d1 d2 d3
  rw [hv10] at d2 d3
  have HV10 := Lib.hid hv10
  have HT10 := Lib.hid d1
  have HG10 := Lib.hid d2
  have hs910 := hs9.trans d3
  have HS10 := Lib.hid (HS8.out.trans hs910)
  have HA10 := Lib.hid (HA5b.out.spares hs910 (fun _ _ _ h => h))
  have HB10 := Lib.hid (hb9.spares d3 (fun _ _ _ h => h))
  have HID := Lib.hid (sizeFrag D hDK hDS)
  clear hb9 hs9 d1 d2 d3 hv10 hs910 HOP HA5b HS8
  go_upto_region 10 with ((with_reducible show wpList _ _ _ (⟨none, .store 26 _ _, _, _, _, _⟩ :: _) _ _); refine wpList_store_mid rfl 26 (.tmp 11) (.tmp 48) rfl q9 0 (fragA D) rfl rfl HT10.out HID.out (fragA_one _) ?_)
  change Code.wp _ _ _ _ ((v9.alloc (.cells (fragA zeroD) 26)).setCells q9 0 (fragA D).toList)
  rw [HV10.out]
  clear hq9 HV10 HT10
  go_wp2_with fail
  refine (refOpenFrag_any a5 m c5 L v10 HA10.out HM.out.symm hc5 (by omega)).mono ?_
  rintro e v11 ⟨a11, c11, rfl, hb11, _, hs11⟩
  rw [H2.out.1, H2.out.2.1, H2.out.2.2, HBL.out]
  rw [H2.out.2.1] at hb11
  obtain ⟨d1, d2, d3⟩ := frag_new (w := v11) (G := D) hDK hDS
  obtain ⟨q11, hq11⟩ : ∃ q, v11.heap.size = q := ⟨_, rfl⟩
  obtain ⟨v12, hv12⟩ : ∃ v12, (v11.alloc (.cells (fragA zeroD) 26)).setCells q11 0 (fragA D).toList = v12 := ⟨_, rfl⟩
  rw [hq11] at d1 d2 d3
  rw [hv12] at d2 d3
  have HV12 := Lib.hid hv12
  have HT12 := Lib.hid d1
  have HG12 := Lib.hid d2
  have hs112 := hs11.trans d3
  have HG12b := Lib.hid (hs112.heap HG10.out (fun h => h))
  have HS12 := Lib.hid (HS10.out.trans hs112)
  have HB12 := Lib.hid (hb11.spares d3 (fun _ _ _ h => h))
  have HB12b := Lib.hid (HB10.out.spares hs112 (fun _ _ _ h => h))
  have HSM := Lib.hid (same_any D v12 hDK hDS)
  clear hb11 hs11 d1 d2 d3 hv12 hs112 HB10 HA10 HS10 HG10
  go_upto_region 11 with ((with_reducible show wpList _ _ _ (⟨none, .store 26 _ _, _, _, _, _⟩ :: _) _ _); refine wpList_store_mid rfl 26 (.tmp 14) (.tmp 54) rfl q11 0 (fragA D) rfl rfl HT12.out HID.out (fragA_one _) ?_)
  change Code.wp _ _ _ _ ((v11.alloc (.cells (fragA zeroD) 26)).setCells q11 0 (fragA D).toList)
  rw [HV12.out]
  clear hq11 HV12 HT12
  go_wp2_with (first
    | ((with_reducible show wpList _ _ _ (⟨some 64, .load 26 _, _, _, _, _⟩ :: _) _ _); refine wpList_load_rowG (by rfl) 26 (.tmp 11) rfl q9 rfl 26 _ (0, 0) _ HG12b.out Tryd.underlying26 rfl HID.out ?_)
    | ((with_reducible show wpList _ _ _ (⟨some 65, .load 26 _, _, _, _, _⟩ :: _) _ _); refine wpList_load_rowG (by rfl) 26 (.tmp 14) rfl q11 rfl 26 _ (0, 0) _ HG12.out Tryd.underlying26 rfl HID.out ?_)
    | fail)
  refine HSM.out.mono ?_
  rintro e v13 ⟨rfl, hs13⟩
  have HBZ := Lib.hid (bytesW_any (p.take s) a9 a11 s s c9 c11 v13 (HB12b.out.spares hs13 (fun _ _ _ h => h)) (HB12.out.spares hs13 (fun _ _ _ h => h)) HBL.out.symm HBL.out.symm)
  have HS13 := Lib.hid (HS12.out.trans hs13)
  have hmin1 : (if 4096 < (pn : Int) then (4096 : Int) else (pn : Int)) = (s : Int) := by have := HSL.out; split <;> omega
  have hmin2 : (if 4096 < pn then (4096 : Int) else (pn : Int)) = (s : Int) := by have := HSL.out; split <;> omega
  have hmin3 : min (pn : Int) 4096 = (s : Int) := by have := HSL.out; omega
  have hss : ((s : Int) == (s : Int)) = true := by simp
  clear hs13 HSM HB12 HB12b HG12 HG12b
  go_wp2_with fail
  refine HBZ.out.mono ?_
  rintro e v14 ⟨rfl, rfl⟩
  go_wp2
  go_ret
  exact ⟨rfl, HS13.out⟩
end Go.Proofs.YtimpnnhadjfijaaDoor
