/-
  A fragment, written.
-/
import Derived.Test.YtimpnnhadjfijaaDoorFragOpenEntry
import Derived.Test.YtimpnnhadjfijaaDoorCodeCrc
import Derived.Test.YtimpnnhadjfijaaDoorZeros
import Derived.Lib.SlBytesConst
namespace Go.Proofs.YtimpnnhadjfijaaDoor
open Go.RowKit CrcMath

theorem Steps.spares {F : Nat → Prop} {w w' : World} (h : Steps w) (hs : Spares F w w') (h0 : ¬ F 0) : Steps w' := by
  intro r hr
  have hc := h r hr
  have hlt : 0 < w.heap.size := by
    rcases Nat.lt_or_ge 0 w.heap.size with h | h
    · exact h
    · simp [World.cell?, Array.getElem?_eq_none h] at hc
  exact (hs.cell (p := ⟨0, r, none⟩) hlt h0).trans hc
theorem Steps.lt {w : World} (h : Steps w) : 0 < w.heap.size := by
  have hc := h 0 (by omega)
  rcases Nat.lt_or_ge 0 w.heap.size with h | h
  · exact h
  · simp [World.cell?, Array.getElem?_eq_none h] at hc
theorem bytesAt_lit {w : World} (l : List UInt8) {t : TypeId} {r : Nat × Nat} : BytesAt (w.alloc (.cells (Lib.byteCells l).toArray t r)) (some ⟨w.heap.size, 0, none⟩) l := by
  intro k hk
  refine ⟨_, _, rfl, ?_⟩
  have h := heap_alloc_new w (.cells (Lib.byteCells l).toArray t r)
  simp only [World.cell?, h]
  simp [Lib.byteCells, hk]
theorem crc_at (l : List UInt8) (a : Option Addr) (n cap : Nat) (w : World) (hT : Steps w) (hin : BytesAt w a l) (hn : n = l.length) (hle : l.length ≤ 140737488351232) :
    Calls Tryd.prog 26 #[.slice a n cap] w fun e w' => e = .returned (.int .u32 (crcF l : Nat)) ∧ w = w' := by
  subst hn; exact crc_any l a cap w hT hin hle


theorem shaF_len (l : List UInt8) : (shaF l).length = 32 := by unfold shaF; rw [← outK_all, outK_len 8 (by omega)]
structure FragD where
  K : List UInt8
  part : Int
  last : Bool
  size : Int
  S : List UInt8
  turn : Nat
def fragL (F : FragD) : List Value := Lib.byteCells F.K ++ ([.int .i64 F.part, .bool F.last, .int .i64 F.size] ++ (Lib.byteCells F.S ++ [.int .u64 F.turn]))
def fragA (F : FragD) : Array Value := (fragL F).toArray
theorem fragL_len (F : FragD) (hK : F.K.length = 32) (hS : F.S.length = 32) : (fragL F).length = 68 := by unfold fragL; simp [byteCells_len, hK, hS]
theorem fragA_size (F : FragD) (hK : F.K.length = 32) (hS : F.S.length = 32) : (fragA F).size = 68 := by unfold fragA; simpa using fragL_len F hK hS
theorem fragL_key (F : FragD) (i : Nat) (h : i < 32) (hK : F.K.length = 32) : (fragL F)[i]? = (Lib.byteCells F.K)[i]? := by
  unfold fragL
  rw [List.getElem?_append_left (by rw [byteCells_len]; omega)]
theorem fragL_mid (F : FragD) (i : Nat) (h : i < 3) (hK : F.K.length = 32) : (fragL F)[32 + i]? = [Value.int .i64 F.part, .bool F.last, .int .i64 F.size][i]? := by
  unfold fragL
  rw [List.getElem?_append_right (by rw [byteCells_len]; omega), byteCells_len, hK, show 32 + i - 32 = i by omega, List.getElem?_append_left (by simpa using h)]
theorem fragL_sum (F : FragD) (i : Nat) (h : i < 32) (hK : F.K.length = 32) (hS : F.S.length = 32) : (fragL F)[35 + i]? = (Lib.byteCells F.S)[i]? := by
  unfold fragL
  rw [List.getElem?_append_right (by rw [byteCells_len]; omega), byteCells_len, hK, List.getElem?_append_right (by simp; omega)]
  rw [List.getElem?_append_left (by rw [byteCells_len]; simp; omega)]
  congr 1
  simp; omega
theorem fragL_turn (F : FragD) (hK : F.K.length = 32) (hS : F.S.length = 32) : (fragL F)[67]? = some (.int .u64 F.turn) := by
  unfold fragL
  rw [List.getElem?_append_right (by rw [byteCells_len]; omega), byteCells_len, hK, List.getElem?_append_right (by simp), List.getElem?_append_right (by rw [byteCells_len, hS]; simp), byteCells_len, hS]
  rfl
theorem frag_cells {w : World} {q : Nat} {F : FragD} {t : TypeId} (h : w.heap[q]? = some (.cells (fragA F) t (0, 0))) (hK : F.K.length = 32) (hS : F.S.length = 32) :
    BytesAt w (some ⟨q, 0, none⟩) F.K ∧ w.cell? ⟨q, 32, none⟩ = some (.int .i64 F.part) ∧ w.cell? ⟨q, 33, none⟩ = some (.bool F.last) ∧ w.cell? ⟨q, 34, none⟩ = some (.int .i64 F.size) ∧ BytesAt w (some ⟨q, 35, none⟩) F.S ∧ w.cell? ⟨q, 67, none⟩ = some (.int .u64 F.turn) := by
  have hc : ∀ i, w.cell? ⟨q, i, none⟩ = (fragL F)[i]? := fun i => by rw [Lib.cell_of_heap h]; simp [fragA]
  refine ⟨?_, ?_, ?_, ?_, ?_, ?_⟩
  · intro k hk
    refine ⟨q, 0, rfl, ?_⟩
    rw [Nat.zero_add, hc, fragL_key F k (by omega) hK]
    simp [Lib.byteCells, hk]
  · rw [hc, show 32 = 32 + 0 from rfl, fragL_mid F 0 (by omega) hK]; rfl
  · rw [hc, show 33 = 32 + 1 from rfl, fragL_mid F 1 (by omega) hK]; rfl
  · rw [hc, show 34 = 32 + 2 from rfl, fragL_mid F 2 (by omega) hK]; rfl
  · intro k hk
    refine ⟨q, 35, rfl, ?_⟩
    rw [hc, fragL_sum F k (by omega) hK hS]
    simp [Lib.byteCells, hk]
  · rw [hc, fragL_turn F hK hS]

def lastN (b : Bool) : Nat := if b then 1 else 0
def headF (K S : List UInt8) (P : Nat) (last : Bool) (size turn : Nat) : List UInt8 := (((((([65, 77, 66, 82] ++ K) ++ beN 4 P) ++ beN 1 (lastN last)) ++ beN 4 size) ++ S) ++ beN 8 turn)
theorem headF_len (K S : List UInt8) (P : Nat) (last : Bool) (size turn : Nat) (hK : K.length = 32) (hS : S.length = 32) : (headF K S P last size turn).length = 85 := by
  unfold headF; simp [beN_len, hK, hS]
def fragB (K : List UInt8) (P : Nat) (last : Bool) (turn : Nat) (body : List UInt8) : List UInt8 :=
  (headF K (shaF body) P last body.length turn ++ beN 4 (crcF (headF K (shaF body) P last body.length turn))) ++ body
theorem fragB_len (K : List UInt8) (P : Nat) (last : Bool) (turn : Nat) (body : List UInt8) (hK : K.length = 32) : (fragB K P last turn body).length = 89 + body.length := by
  unfold fragB
  rw [List.length_append, List.length_append, headF_len _ _ _ _ _ _ hK (shaF_len body), beN_len]
theorem newFW2 {w w1 : World} {q : Nat} {v : Value} {d : List UInt8} (h : w1 = w.alloc (.cells #[v] 56)) (hq : q = w.heap.size) (ho : OwnBytes w v d) : IsFW (fun k => k = q ∨ v.ownBlock = some k) q d w1 := by
  subst h; subst hq
  refine ⟨.inl rfl, fun k hk => ?_, _, heap_alloc_new w _, ho.spares (F := nowhere) ((Spares.refl _ w).alloc _) (fun _ _ h => h), fun g hg => .inr hg⟩
  rcases hk with rfl | hk
  · simp
  · have := ho.lt k hk
    simp; omega
theorem slice_key32 (q off : Nat) (w : World) : (Instr.sliceAt 23 (.pointer (some ⟨q, off, none⟩)) none none none).run Tryd.prog w = .ok (.slice (some ⟨q, off, none⟩) 32 32) w := by kernel_rfl
theorem Row8.own {B : Nat} {w : World} {v : Value} {d : List UInt8} (h : Row8 B w v d) : OwnBytes w v d := by
  refine ⟨h.1, ?_⟩
  rcases h.2 with h2 | ⟨g, cap, cur, h1, _, h3⟩
  · exact .inl h2
  · exact .inr ⟨g, cap, cur, h1, Nat.zero_le _, h3⟩
def FragPost (L : List UInt8) (w : World) (e : Ending) (w' : World) : Prop :=
  ∃ ao c', e = .returned (.slice ao L.length c') ∧ OwnBytes w' (.slice ao L.length c') L ∧ Spares nowhere w w' ∧ ∀ g, (Value.slice ao L.length c').ownBlock = some g → w.heap.size ≤ g
/-- A writer that was made anew, and all that came since. -/
def Since (B : Nat) (w5 : World) (F : Nat → Prop) (w' : World) : Prop := Spares (fun k => B ≤ k) w5 w' ∧ ∀ k, F k → B ≤ k
theorem Since.go {B : Nat} {w5 w' w'' : World} {F F' : Nat → Prop} (h : Since B w5 F w') (hB : B ≤ w5.heap.size) (k : MovedF F w' F' w'') : Since B w5 F' w'' :=
  ⟨h.1.trans' k.1 (fun b hb => .inl (h.2 b hb)), fun b hb => (k.2 b hb).elim (h.2 b) (fun hge => Nat.le_trans hB (Nat.le_trans h.1.size hge))⟩
theorem Since.alloc {B : Nat} {w5 w' : World} {F : Nat → Prop} (h : Since B w5 F w') (o : Obj) : Since B w5 F (w'.alloc o) := ⟨h.1.alloc o, h.2⟩

set_option maxRecDepth 100000 in
set_option maxHeartbeats 4000000 in
theorem frag_true (F : FragD) (P s : Nat) (a : Option Addr) (n c : Nat) (l : List UInt8) (w : World) (hT : Steps w) (hl : BytesAt w a l) (hn : n = l.length) (hnil : a = none → c = 0) (hnc : n ≤ c) (hmax : n ≤ 140737488351232)
    (hK : F.K.length = 32) (hS : F.S.length = 32) (hP : IntKind.u32.wrap F.part = (P : Int)) (hs : min n 4096 = s) (hlast : F.last = true) :
    Calls Tryd.prog 10 #[.agg (fragA F), .slice a n c] w (FragPost (fragB F.K P true F.turn (l.take s)) w) := by
  have hPlt : P < 4294967296 := by
    rw [IntKind.wrap_u32] at hP; omega
  have hw1 : IntKind.u64.wrap (P : Int) = (P : Int) := by rw [IntKind.wrap_u64]; omega
  have hsn : s ≤ n := by omega
  have hs4 : s ≤ 4096 := by omega
  have hmin : (if 4096 < (n : Int) then (4096 : Int) else (n : Int)) = (s : Int) := by split <;> omega
  have hmin2 : (if 4096 < n then (4096 : Int) else (n : Int)) = (s : Int) := by split <;> omega
  have hw2 : IntKind.u64.wrap (s : Int) = (s : Int) := by rw [IntKind.wrap_u64]; omega
  obtain ⟨y, hy⟩ : ∃ y, l.take s = y := ⟨_, rfl⟩
  have hyl : y.length = s := by rw [← hy, List.length_take]; omega
  have haty : BytesAt w a y := by rw [← hy]; exact bytesAt_takeF s hl
  obtain ⟨R, hR⟩ : ∃ R, shaF y = R := ⟨_, rfl⟩
  have hRl : R.length = 32 := by rw [← hR]; exact shaF_len y
  obtain ⟨H, hH⟩ : ∃ H, headF F.K R P true s F.turn = H := ⟨_, rfl⟩
  have hHl : H.length = 85 := by rw [← hH]; exact headF_len _ _ _ _ _ _ hK hRl
  obtain ⟨C, hC⟩ : ∃ C, crcF H = C := ⟨_, rfl⟩
  have hClt : C < 4294967296 := by rw [← hC]; unfold crcF; exact Nat.xor_lt_two_pow (n := 32) (by decide) (crcG_lt H)
  have hw3 : IntKind.u64.wrap (C : Int) = (C : Int) := by rw [IntKind.wrap_u64]; omega
  obtain ⟨L, hL⟩ : ∃ L, fragB F.K P true F.turn y = L := ⟨_, rfl⟩
  have hLe : L = (H ++ beN 4 C) ++ y := by rw [← hL, ← hC, ← hH, ← hR, ← hyl]; rfl
  rw [hy, hL]
  have HT := Lib.hid hT
  have HNN := Lib.hid hn
  have HY := Lib.hid haty
  have HYL := Lib.hid hyl
  have HNIL := Lib.hid hnil
  have HK := Lib.hid hK
  have HSS := Lib.hid hS
  have HR := Lib.hid hR
  have HRL := Lib.hid hRl
  have HH := Lib.hid hH
  have HHL := Lib.hid hHl
  have HC := Lib.hid hC
  have HL := Lib.hid hLe
  have HLA := Lib.hid hlast
  obtain ⟨v1, hv1⟩ : ∃ v1, w.alloc (.cells (fragA F) 26) = v1 := ⟨_, rfl⟩
  have HV1 := Lib.hid hv1
  have hq1 : v1.heap[w.heap.size]? = some (.cells (fragA F) 26 (0, 0)) := by rw [← hv1]; exact heap_alloc_new w _
  have hs1 : Spares nowhere w v1 := by rw [← hv1]; exact (Spares.refl _ w).alloc _
  have hsz1 : v1.heap.size = w.heap.size + 1 := by rw [← hv1]; simp
  have HQ1 := Lib.hid hq1
  have HS1 := Lib.hid hs1
  have HZ1 := Lib.hid hsz1
  have HSUM := Lib.hid (sum_any a s s y v1 (haty.spares hs1 (fun _ _ _ h => h)) hyl.symm (by omega) (Nat.le_refl _))
  have kc := fun (w : World) (C : Array Value) (n c : Nat) => Lib.run_convert_bytes_const (P := Tryd.prog) w 27 5 C n c Tryd.underlying27 Tryd.underlying5
  have ks := slice_key32
  clear hl hn hnil hT hK hS hs hlast hy hyl haty hR hRl hH hHl hC hL hLe hv1 hq1 hs1 hsz1
  go_enter Tryd.func10, Tryd.ntmps10
  go_wp2_with fail
  change Calls _ _ _ (w.alloc (.cells (fragA F) 26)) _
  rw [HV1.out]
  refine HSUM.out.mono ?_
  rintro e v2 ⟨rfl, hs2⟩
  rw [HR.out]
  have hq2 := hs2.heap HQ1.out (fun h => h)
  have hs2' := HS1.out.trans hs2
  obtain ⟨q, hq⟩ : ∃ q, v2.heap.size = q := ⟨_, rfl⟩
  have hqw : w.heap.size < q := by rw [← hq]; have := hs2.size; have := HZ1.out; omega
  have hal : (v2.alloc (.cells (bytesV (List.replicate 32 0)) 23)).heap[q]? = some (.cells (bytesV (List.replicate 32 0)) 23 (0, 0)) := by rw [← hq]; exact heap_alloc_new v2 _
  have hgq : ((v2.alloc (.cells (bytesV (List.replicate 32 0)) 23)).setCells q 0 (Lib.byteCells R)).heap[q]? = some (.cells (bytesV R) 23 (0, 0)) := by
    have := heap_setCells (g := q) (t := 23) (Lib.byteCells R) [] (Lib.byteCells (List.replicate 32 0)) [] _ (by rw [List.append_nil]; exact hal) (by rw [byteCells_len, byteCells_len, HRL.out]; simp)
    rw [List.append_nil] at this
    exact this
  have htq := there_of hal 0 (bytesV R).size (by rw [bytesV_size, bytesV_size, HRL.out]; simp)
  have infoC : (Tryd.prog.info? 23).map (·.size) = some (bytesV R).size := by rw [bytesV_size, HRL.out]; exact infoKey
  obtain ⟨v3, hv3⟩ : ∃ v3, (v2.alloc (.cells (bytesV (List.replicate 32 0)) 23)).setCells q 0 (Lib.byteCells R) = v3 := ⟨_, rfl⟩
  have hs23 : Spares nowhere v2 v3 := by rw [← hv3]; exact ((Spares.refl nowhere v2).alloc _).trans' (spares_setCells (g := q) _ _ _ (Spares.refl _ _)) (fun b hb => .inr (by omega))
  have hsz3 : q + 1 ≤ v3.heap.size := by
    rw [hv3] at hgq
    exact (Array.getElem?_eq_some_iff.1 hgq).1
  rw [hv3] at hgq
  have HV3 := Lib.hid hv3
  have HQ3 := Lib.hid (hs23.heap hq2 (fun h => h))
  have HS3 := Lib.hid (hs2'.trans hs23)
  have HG3 := Lib.hid hgq
  have HTQ := Lib.hid htq
  have HI := Lib.hid infoC
  have HQW := Lib.hid hqw
  clear hs2 hq2 hs2' hal hgq htq infoC hv3 hs23 HSUM
  go_upto_region 4 with ((with_reducible show wpList _ _ _ (⟨none, .store 23 _ _, _, _, _, _⟩ :: _) _ _); refine wpList_store_mid rfl 23 (.tmp 7) (.tmp 17) rfl q 0 (bytesV R) rfl rfl HTQ.out HI.out (bytesV_one _) ?_)
  change Code.wp _ _ _ _ ((v2.alloc (.cells (bytesV (List.replicate 32 0)) 23)).setCells q 0 (Lib.byteCells R))
  rw [HV3.out]
  clear HV3 HTQ HI
  go_upto_region 5 with ((with_reducible show wpList _ _ _ (⟨some 20, _, _, _, _, _⟩ :: _) _ _); refine wpList_make_row rfl _ _ rfl v3.heap.size .i64 .i64 _ (89 + s) rfl rfl (by omega) (by omega) (Nat.le_refl _) ?_; intro vr v4 hr4 hs4; obtain ⟨a4, c4, hv4, _⟩ := hr4.shape; rw [List.length_nil] at hv4; subst hv4; have HR4 := Lib.hid hr4; have HS4 := Lib.hid hs4; clear hr4 hs4)
  obtain ⟨p, hp⟩ : ∃ p, v4.heap.size = p := ⟨_, rfl⟩
  obtain ⟨v5, hv5⟩ : ∃ v5, v4.alloc (.cells #[.slice a4 0 c4] 56) = v5 := ⟨_, rfl⟩
  obtain ⟨B, hB⟩ : ∃ B, v3.heap.size = B := ⟨_, rfl⟩
  rw [hB] at HR4 hsz3
  have hw5 := newFW2 hv5.symm hp.symm HR4.out.own
  obtain ⟨F5, hF5⟩ : ∃ F5 : Nat → Prop, (fun k => k = p ∨ (Value.slice a4 ([] : List UInt8).length c4).ownBlock = some k) = F5 := ⟨_, rfl⟩
  have hs45 : Spares nowhere v4 v5 := by rw [← hv5]; exact (Spares.refl _ v4).alloc _
  have hBp : B ≤ p := by rw [← hB, ← hp]; exact HS4.out.size
  have hB5 : B ≤ v5.heap.size := by rw [← hv5]; simp; omega
  have hsi : Since B v5 F5 v5 := ⟨Spares.refl _ _, fun k hk => by
    rw [← hF5] at hk
    rcases hk with rfl | hk
    · exact hBp
    · exact (HR4.out.lt k hk).1⟩
  have HW5 : Hid (IsFW F5 p [] v5) := Lib.hid (by rw [← hF5]; exact hw5)
  have HQ5 := Lib.hid (hs45.heap (HS4.out.heap HQ3.out (fun h => h)) (fun h => h))
  have HG5 := Lib.hid (hs45.heap (HS4.out.heap HG3.out (fun h => h)) (fun h => h))
  have HS5 := Lib.hid ((HS3.out.trans HS4.out).trans hs45)
  have HSI5 := Lib.hid hsi
  have HB5 := Lib.hid hB5
  have HV5 := Lib.hid hv5
  have hBw : w.heap.size < B := by omega
  have hBq : q < B := by omega
  have HFB := Lib.hid hBw
  have HFQ := Lib.hid hBq
  have HP := Lib.hid hp
  clear hw5 hF5 hs45 hBp hB5 hsi hB hv5 hBw hBq HR4 HQ3 HG3 HS3 HS4 hqw
  rw [hp]
  change Code.wp _ _ _ _ (v4.alloc (.cells #[.slice a4 0 c4] 56))
  rw [HV5.out]
  clear hp
  go_wp2_with fail
  change Calls _ _ _ (v5.alloc (.cells (Lib.byteCells [65, 77, 66, 82]).toArray 5 (4, 5))) _
  refine (fwText_any F5 p [] (some ⟨v5.heap.size, 0, none⟩) 4 4 [65, 77, 66, 82] _ (HW5.out.alloc _) (bytesAt_lit _) rfl (fun e => by cases e) (by simp)).mono ?_
  rintro e v6 ⟨rfl, F6, hW6, hM6⟩
  rw [List.nil_append] at hW6
  have HSI6 := Lib.hid ((HSI5.out.alloc _).go HB5.out hM6)
  have HW6 := Lib.hid hW6
  have hk6 := (frag_cells (HSI6.out.1.heap HQ5.out (fun h => by have := HFB.out; omega)) HK.out HSS.out).1
  have HK6 := Lib.hid hk6
  clear hW6 hM6 hk6 HW5
  go_wp2_with fail
  refine (fwText_any F6 p _ (some ⟨w.heap.size, 0, none⟩) 32 32 F.K _ HW6.out HK6.out HK.out.symm (fun e => by cases e) (by simp [HK.out])).mono ?_
  rintro e v7 ⟨rfl, F7, hW7, hM7⟩
  have HSI7 := Lib.hid (HSI6.out.go HB5.out hM7)
  have HW7 := Lib.hid hW7
  have c7 := (frag_cells (HSI7.out.1.heap HQ5.out (fun h => by have := HFB.out; omega)) HK.out HSS.out).2.1
  clear hW7 hM7 HK6 HW6 HSI6
  go_wp2_with fail
  refine (fwNum_any F7 p _ P 4 _ HW7.out (by omega) (by simp [HK.out])).mono ?_
  rintro e v8 ⟨rfl, F8, hW8, hM8⟩
  have HSI8 := Lib.hid (HSI7.out.go HB5.out hM8)
  have HW8 := Lib.hid hW8
  have c8 := (frag_cells (HSI8.out.1.heap HQ5.out (fun h => by have := HFB.out; omega)) HK.out HSS.out).2.2.1
  rw [HLA.out] at c8
  clear hW8 hM8 HW7 HSI7 c7
  go_wp2_with fail
  refine (fwNum_any F8 p _ 1 1 _ HW8.out (by omega) (by simp [HK.out, beN_len])).mono ?_
  rintro e v9 ⟨rfl, F9, hW9, hM9⟩
  have HSI9 := Lib.hid (HSI8.out.go HB5.out hM9)
  have HW9 := Lib.hid hW9
  clear hW9 hM9 HW8 HSI8 c8
  go_wp2_with fail
  refine (fwNum_any F9 p _ s 4 _ HW9.out (by omega) (by simp [HK.out, beN_len])).mono ?_
  rintro e v10 ⟨rfl, F10, hW10, hM10⟩
  have HSI10 := Lib.hid (HSI9.out.go HB5.out hM10)
  have HW10 := Lib.hid hW10
  have HG10 := Lib.hid (bytesV_at (HSI10.out.1.heap HG5.out (fun h => by have := HFQ.out; omega)))
  clear hW10 hM10 HW9 HSI9
  go_wp2_with fail
  refine (fwText_any F10 p _ (some ⟨q, 0, none⟩) 32 32 R _ HW10.out HG10.out HRL.out.symm (fun e => by cases e) (by simp [HK.out, HRL.out, beN_len])).mono ?_
  rintro e v11 ⟨rfl, F11, hW11, hM11⟩
  have HSI11 := Lib.hid (HSI10.out.go HB5.out hM11)
  have HW11 := Lib.hid hW11
  have c11 := (frag_cells (HSI11.out.1.heap HQ5.out (fun h => by have := HFB.out; omega)) HK.out HSS.out).2.2.2.2.2
  clear hW11 hM11 HW10 HSI10 HG10
  go_wp2_with fail
  refine (fwNum_any F11 p _ F.turn 8 _ HW11.out (by omega) (by simp [HK.out, HRL.out, beN_len])).mono ?_
  rintro e v12 ⟨rfl, F12, hW12, hM12⟩
  have HSI12 := Lib.hid (HSI11.out.go HB5.out hM12)
  have hw12 : IsFW F12 p H v12 := by
    rw [← HH.out]
    exact hW12
  have HW12 := Lib.hid hw12
  clear hW12 hM12 HW11 HSI11 c11
  obtain ⟨hf12, hlt12, vv, hv12, ho12, _⟩ := hw12
  obtain ⟨a12, c12, hvv, hat12, hn12, hc12⟩ := Row8.shape (B := 0) (show Row8 0 v12 vv H from ho12)
  rw [HHL.out] at hvv hc12
  subst hvv
  have c0 : v12.cell? ⟨p, 0, none⟩ = some (.slice a12 85 c12) := by rw [Lib.cell_of_heap hv12]; rfl
  have HS12 := Lib.hid (HS5.out.trans' HSI12.out.1 (fun b hb => .inr (by have := HFB.out; omega)))
  have HCRC := Lib.hid (crc_at H a12 85 85 v12 (HT.out.spares HS12.out (fun h => h)) hat12 HHL.out.symm (by rw [HHL.out]; omega))
  clear hf12 hlt12 hv12 ho12 hat12 hn12
  go_wp2_with fail
  refine HCRC.out.mono ?_
  rw [HC.out]
  rintro e v12' ⟨rfl, rfl⟩
  clear HCRC
  go_wp2_with fail
  refine (fwNum_any F12 p _ C 4 _ HW12.out (by omega) (by rw [HHL.out]; omega)).mono ?_
  rintro e v13 ⟨rfl, F13, hW13, hM13⟩
  have HSI13 := Lib.hid (HSI12.out.go HB5.out hM13)
  have HW13 := Lib.hid hW13
  have HS13 := Lib.hid (HS5.out.trans' HSI13.out.1 (fun b hb => .inr (by have := HFB.out; omega)))
  have HY13 := Lib.hid (HY.out.spares HS13.out (fun _ _ _ h => h))
  have HNS : Hid (a = none → s = 0) := Lib.hid (fun e => by have := HNIL.out e; omega)
  clear hW13 hM13 HW12 HSI12 HS12 c0
  go_wp2_with fail
  refine (fwText_any F13 p _ a s s y _ HW13.out HY13.out HYL.out.symm HNS.out (by rw [List.length_append, HHL.out, beN_len, HYL.out]; omega)).mono ?_
  rintro e v14 ⟨rfl, F14, hW14, hM14⟩
  have HSI14 := Lib.hid (HSI13.out.go HB5.out hM14)
  rw [← HL.out] at hW14
  have HS14 := Lib.hid (HS5.out.trans' HSI14.out.1 (fun b hb => .inr (by have := HFB.out; omega)))
  clear hM14 HW13 HSI13 HS13 HY13
  obtain ⟨hf14, hlt14, vv, hv14, ho14, hff⟩ := hW14
  obtain ⟨a14, c14, hvv, _⟩ := ho14.shape
  obtain ⟨N, hN⟩ : ∃ N, L.length = N := ⟨_, rfl⟩
  rw [hN] at hvv
  have HN := Lib.hid hN
  subst hvv
  have c0 : v14.cell? ⟨p, 0, none⟩ = some (.slice a14 N c14) := by rw [Lib.cell_of_heap hv14]; rfl
  have HO14 := Lib.hid ho14
  have HF14 := Lib.hid hff
  clear hf14 hlt14 hv14 ho14 hff hN
  go_wp2
  go_ret
  exact ⟨a14, c14, by rw [HN.out]; rfl, by rw [HN.out]; exact HO14.out, HS14.out, fun g hg => by
    rw [HN.out] at hg
    have := HSI14.out.2 g (HF14.out g hg)
    have := HFB.out
    omega⟩

set_option maxRecDepth 100000 in
set_option maxHeartbeats 4000000 in
theorem frag_false (F : FragD) (P s : Nat) (a : Option Addr) (n c : Nat) (l : List UInt8) (w : World) (hT : Steps w) (hl : BytesAt w a l) (hn : n = l.length) (hnil : a = none → c = 0) (hnc : n ≤ c) (hmax : n ≤ 140737488351232)
    (hK : F.K.length = 32) (hS : F.S.length = 32) (hP : IntKind.u32.wrap F.part = (P : Int)) (hs : min n 4096 = s) (hlast : F.last = false) :
    Calls Tryd.prog 10 #[.agg (fragA F), .slice a n c] w (FragPost (fragB F.K P false F.turn (l.take s)) w) := by
  have hPlt : P < 4294967296 := by
    rw [IntKind.wrap_u32] at hP; omega
  have hw1 : IntKind.u64.wrap (P : Int) = (P : Int) := by rw [IntKind.wrap_u64]; omega
  have hsn : s ≤ n := by omega
  have hs4 : s ≤ 4096 := by omega
  have hmin : (if 4096 < (n : Int) then (4096 : Int) else (n : Int)) = (s : Int) := by split <;> omega
  have hmin2 : (if 4096 < n then (4096 : Int) else (n : Int)) = (s : Int) := by split <;> omega
  have hw2 : IntKind.u64.wrap (s : Int) = (s : Int) := by rw [IntKind.wrap_u64]; omega
  obtain ⟨y, hy⟩ : ∃ y, l.take s = y := ⟨_, rfl⟩
  have hyl : y.length = s := by rw [← hy, List.length_take]; omega
  have haty : BytesAt w a y := by rw [← hy]; exact bytesAt_takeF s hl
  obtain ⟨R, hR⟩ : ∃ R, shaF y = R := ⟨_, rfl⟩
  have hRl : R.length = 32 := by rw [← hR]; exact shaF_len y
  obtain ⟨H, hH⟩ : ∃ H, headF F.K R P false s F.turn = H := ⟨_, rfl⟩
  have hHl : H.length = 85 := by rw [← hH]; exact headF_len _ _ _ _ _ _ hK hRl
  obtain ⟨C, hC⟩ : ∃ C, crcF H = C := ⟨_, rfl⟩
  have hClt : C < 4294967296 := by rw [← hC]; unfold crcF; exact Nat.xor_lt_two_pow (n := 32) (by decide) (crcG_lt H)
  have hw3 : IntKind.u64.wrap (C : Int) = (C : Int) := by rw [IntKind.wrap_u64]; omega
  obtain ⟨L, hL⟩ : ∃ L, fragB F.K P false F.turn y = L := ⟨_, rfl⟩
  have hLe : L = (H ++ beN 4 C) ++ y := by rw [← hL, ← hC, ← hH, ← hR, ← hyl]; rfl
  rw [hy, hL]
  have HT := Lib.hid hT
  have HNN := Lib.hid hn
  have HY := Lib.hid haty
  have HYL := Lib.hid hyl
  have HNIL := Lib.hid hnil
  have HK := Lib.hid hK
  have HSS := Lib.hid hS
  have HR := Lib.hid hR
  have HRL := Lib.hid hRl
  have HH := Lib.hid hH
  have HHL := Lib.hid hHl
  have HC := Lib.hid hC
  have HL := Lib.hid hLe
  have HLA := Lib.hid hlast
  obtain ⟨v1, hv1⟩ : ∃ v1, w.alloc (.cells (fragA F) 26) = v1 := ⟨_, rfl⟩
  have HV1 := Lib.hid hv1
  have hq1 : v1.heap[w.heap.size]? = some (.cells (fragA F) 26 (0, 0)) := by rw [← hv1]; exact heap_alloc_new w _
  have hs1 : Spares nowhere w v1 := by rw [← hv1]; exact (Spares.refl _ w).alloc _
  have hsz1 : v1.heap.size = w.heap.size + 1 := by rw [← hv1]; simp
  have HQ1 := Lib.hid hq1
  have HS1 := Lib.hid hs1
  have HZ1 := Lib.hid hsz1
  have HSUM := Lib.hid (sum_any a s s y v1 (haty.spares hs1 (fun _ _ _ h => h)) hyl.symm (by omega) (Nat.le_refl _))
  have kc := fun (w : World) (C : Array Value) (n c : Nat) => Lib.run_convert_bytes_const (P := Tryd.prog) w 27 5 C n c Tryd.underlying27 Tryd.underlying5
  have ks := slice_key32
  clear hl hn hnil hT hK hS hs hlast hy hyl haty hR hRl hH hHl hC hL hLe hv1 hq1 hs1 hsz1
  go_enter Tryd.func10, Tryd.ntmps10
  go_wp2_with fail
  change Calls _ _ _ (w.alloc (.cells (fragA F) 26)) _
  rw [HV1.out]
  refine HSUM.out.mono ?_
  rintro e v2 ⟨rfl, hs2⟩
  rw [HR.out]
  have hq2 := hs2.heap HQ1.out (fun h => h)
  have hs2' := HS1.out.trans hs2
  obtain ⟨q, hq⟩ : ∃ q, v2.heap.size = q := ⟨_, rfl⟩
  have hqw : w.heap.size < q := by rw [← hq]; have := hs2.size; have := HZ1.out; omega
  have hal : (v2.alloc (.cells (bytesV (List.replicate 32 0)) 23)).heap[q]? = some (.cells (bytesV (List.replicate 32 0)) 23 (0, 0)) := by rw [← hq]; exact heap_alloc_new v2 _
  have hgq : ((v2.alloc (.cells (bytesV (List.replicate 32 0)) 23)).setCells q 0 (Lib.byteCells R)).heap[q]? = some (.cells (bytesV R) 23 (0, 0)) := by
    have := heap_setCells (g := q) (t := 23) (Lib.byteCells R) [] (Lib.byteCells (List.replicate 32 0)) [] _ (by rw [List.append_nil]; exact hal) (by rw [byteCells_len, byteCells_len, HRL.out]; simp)
    rw [List.append_nil] at this
    exact this
  have htq := there_of hal 0 (bytesV R).size (by rw [bytesV_size, bytesV_size, HRL.out]; simp)
  have infoC : (Tryd.prog.info? 23).map (·.size) = some (bytesV R).size := by rw [bytesV_size, HRL.out]; exact infoKey
  obtain ⟨v3, hv3⟩ : ∃ v3, (v2.alloc (.cells (bytesV (List.replicate 32 0)) 23)).setCells q 0 (Lib.byteCells R) = v3 := ⟨_, rfl⟩
  have hs23 : Spares nowhere v2 v3 := by rw [← hv3]; exact ((Spares.refl nowhere v2).alloc _).trans' (spares_setCells (g := q) _ _ _ (Spares.refl _ _)) (fun b hb => .inr (by omega))
  have hsz3 : q + 1 ≤ v3.heap.size := by
    rw [hv3] at hgq
    exact (Array.getElem?_eq_some_iff.1 hgq).1
  rw [hv3] at hgq
  have HV3 := Lib.hid hv3
  have HQ3 := Lib.hid (hs23.heap hq2 (fun h => h))
  have HS3 := Lib.hid (hs2'.trans hs23)
  have HG3 := Lib.hid hgq
  have HTQ := Lib.hid htq
  have HI := Lib.hid infoC
  have HQW := Lib.hid hqw
  clear hs2 hq2 hs2' hal hgq htq infoC hv3 hs23 HSUM
  go_upto_region 4 with ((with_reducible show wpList _ _ _ (⟨none, .store 23 _ _, _, _, _, _⟩ :: _) _ _); refine wpList_store_mid rfl 23 (.tmp 7) (.tmp 17) rfl q 0 (bytesV R) rfl rfl HTQ.out HI.out (bytesV_one _) ?_)
  change Code.wp _ _ _ _ ((v2.alloc (.cells (bytesV (List.replicate 32 0)) 23)).setCells q 0 (Lib.byteCells R))
  rw [HV3.out]
  clear HV3 HTQ HI
  go_upto_region 5 with ((with_reducible show wpList _ _ _ (⟨some 20, _, _, _, _, _⟩ :: _) _ _); refine wpList_make_row rfl _ _ rfl v3.heap.size .i64 .i64 _ (89 + s) rfl rfl (by omega) (by omega) (Nat.le_refl _) ?_; intro vr v4 hr4 hs4; obtain ⟨a4, c4, hv4, _⟩ := hr4.shape; rw [List.length_nil] at hv4; subst hv4; have HR4 := Lib.hid hr4; have HS4 := Lib.hid hs4; clear hr4 hs4)
  obtain ⟨p, hp⟩ : ∃ p, v4.heap.size = p := ⟨_, rfl⟩
  obtain ⟨v5, hv5⟩ : ∃ v5, v4.alloc (.cells #[.slice a4 0 c4] 56) = v5 := ⟨_, rfl⟩
  obtain ⟨B, hB⟩ : ∃ B, v3.heap.size = B := ⟨_, rfl⟩
  rw [hB] at HR4 hsz3
  have hw5 := newFW2 hv5.symm hp.symm HR4.out.own
  obtain ⟨F5, hF5⟩ : ∃ F5 : Nat → Prop, (fun k => k = p ∨ (Value.slice a4 ([] : List UInt8).length c4).ownBlock = some k) = F5 := ⟨_, rfl⟩
  have hs45 : Spares nowhere v4 v5 := by rw [← hv5]; exact (Spares.refl _ v4).alloc _
  have hBp : B ≤ p := by rw [← hB, ← hp]; exact HS4.out.size
  have hB5 : B ≤ v5.heap.size := by rw [← hv5]; simp; omega
  have hsi : Since B v5 F5 v5 := ⟨Spares.refl _ _, fun k hk => by
    rw [← hF5] at hk
    rcases hk with rfl | hk
    · exact hBp
    · exact (HR4.out.lt k hk).1⟩
  have HW5 : Hid (IsFW F5 p [] v5) := Lib.hid (by rw [← hF5]; exact hw5)
  have HQ5 := Lib.hid (hs45.heap (HS4.out.heap HQ3.out (fun h => h)) (fun h => h))
  have HG5 := Lib.hid (hs45.heap (HS4.out.heap HG3.out (fun h => h)) (fun h => h))
  have HS5 := Lib.hid ((HS3.out.trans HS4.out).trans hs45)
  have HSI5 := Lib.hid hsi
  have HB5 := Lib.hid hB5
  have HV5 := Lib.hid hv5
  have hBw : w.heap.size < B := by omega
  have hBq : q < B := by omega
  have HFB := Lib.hid hBw
  have HFQ := Lib.hid hBq
  have HP := Lib.hid hp
  clear hw5 hF5 hs45 hBp hB5 hsi hB hv5 hBw hBq HR4 HQ3 HG3 HS3 HS4 hqw
  rw [hp]
  change Code.wp _ _ _ _ (v4.alloc (.cells #[.slice a4 0 c4] 56))
  rw [HV5.out]
  clear hp
  go_wp2_with fail
  change Calls _ _ _ (v5.alloc (.cells (Lib.byteCells [65, 77, 66, 82]).toArray 5 (4, 5))) _
  refine (fwText_any F5 p [] (some ⟨v5.heap.size, 0, none⟩) 4 4 [65, 77, 66, 82] _ (HW5.out.alloc _) (bytesAt_lit _) rfl (fun e => by cases e) (by simp)).mono ?_
  rintro e v6 ⟨rfl, F6, hW6, hM6⟩
  rw [List.nil_append] at hW6
  have HSI6 := Lib.hid ((HSI5.out.alloc _).go HB5.out hM6)
  have HW6 := Lib.hid hW6
  have hk6 := (frag_cells (HSI6.out.1.heap HQ5.out (fun h => by have := HFB.out; omega)) HK.out HSS.out).1
  have HK6 := Lib.hid hk6
  clear hW6 hM6 hk6 HW5
  go_wp2_with fail
  refine (fwText_any F6 p _ (some ⟨w.heap.size, 0, none⟩) 32 32 F.K _ HW6.out HK6.out HK.out.symm (fun e => by cases e) (by simp [HK.out])).mono ?_
  rintro e v7 ⟨rfl, F7, hW7, hM7⟩
  have HSI7 := Lib.hid (HSI6.out.go HB5.out hM7)
  have HW7 := Lib.hid hW7
  have c7 := (frag_cells (HSI7.out.1.heap HQ5.out (fun h => by have := HFB.out; omega)) HK.out HSS.out).2.1
  clear hW7 hM7 HK6 HW6 HSI6
  go_wp2_with fail
  refine (fwNum_any F7 p _ P 4 _ HW7.out (by omega) (by simp [HK.out])).mono ?_
  rintro e v8 ⟨rfl, F8, hW8, hM8⟩
  have HSI8 := Lib.hid (HSI7.out.go HB5.out hM8)
  have HW8 := Lib.hid hW8
  have c8 := (frag_cells (HSI8.out.1.heap HQ5.out (fun h => by have := HFB.out; omega)) HK.out HSS.out).2.2.1
  rw [HLA.out] at c8
  clear hW8 hM8 HW7 HSI7 c7
  go_wp2_with fail
  refine (fwNum_any F8 p _ 0 1 _ HW8.out (by omega) (by simp [HK.out, beN_len])).mono ?_
  rintro e v9 ⟨rfl, F9, hW9, hM9⟩
  have HSI9 := Lib.hid (HSI8.out.go HB5.out hM9)
  have HW9 := Lib.hid hW9
  clear hW9 hM9 HW8 HSI8 c8
  go_wp2_with fail
  refine (fwNum_any F9 p _ s 4 _ HW9.out (by omega) (by simp [HK.out, beN_len])).mono ?_
  rintro e v10 ⟨rfl, F10, hW10, hM10⟩
  have HSI10 := Lib.hid (HSI9.out.go HB5.out hM10)
  have HW10 := Lib.hid hW10
  have HG10 := Lib.hid (bytesV_at (HSI10.out.1.heap HG5.out (fun h => by have := HFQ.out; omega)))
  clear hW10 hM10 HW9 HSI9
  go_wp2_with fail
  refine (fwText_any F10 p _ (some ⟨q, 0, none⟩) 32 32 R _ HW10.out HG10.out HRL.out.symm (fun e => by cases e) (by simp [HK.out, HRL.out, beN_len])).mono ?_
  rintro e v11 ⟨rfl, F11, hW11, hM11⟩
  have HSI11 := Lib.hid (HSI10.out.go HB5.out hM11)
  have HW11 := Lib.hid hW11
  have c11 := (frag_cells (HSI11.out.1.heap HQ5.out (fun h => by have := HFB.out; omega)) HK.out HSS.out).2.2.2.2.2
  clear hW11 hM11 HW10 HSI10 HG10
  go_wp2_with fail
  refine (fwNum_any F11 p _ F.turn 8 _ HW11.out (by omega) (by simp [HK.out, HRL.out, beN_len])).mono ?_
  rintro e v12 ⟨rfl, F12, hW12, hM12⟩
  have HSI12 := Lib.hid (HSI11.out.go HB5.out hM12)
  have hw12 : IsFW F12 p H v12 := by
    rw [← HH.out]
    exact hW12
  have HW12 := Lib.hid hw12
  clear hW12 hM12 HW11 HSI11 c11
  obtain ⟨hf12, hlt12, vv, hv12, ho12, _⟩ := hw12
  obtain ⟨a12, c12, hvv, hat12, hn12, hc12⟩ := Row8.shape (B := 0) (show Row8 0 v12 vv H from ho12)
  rw [HHL.out] at hvv hc12
  subst hvv
  have c0 : v12.cell? ⟨p, 0, none⟩ = some (.slice a12 85 c12) := by rw [Lib.cell_of_heap hv12]; rfl
  have HS12 := Lib.hid (HS5.out.trans' HSI12.out.1 (fun b hb => .inr (by have := HFB.out; omega)))
  have HCRC := Lib.hid (crc_at H a12 85 85 v12 (HT.out.spares HS12.out (fun h => h)) hat12 HHL.out.symm (by rw [HHL.out]; omega))
  clear hf12 hlt12 hv12 ho12 hat12 hn12
  go_wp2_with fail
  refine HCRC.out.mono ?_
  rw [HC.out]
  rintro e v12' ⟨rfl, rfl⟩
  clear HCRC
  go_wp2_with fail
  refine (fwNum_any F12 p _ C 4 _ HW12.out (by omega) (by rw [HHL.out]; omega)).mono ?_
  rintro e v13 ⟨rfl, F13, hW13, hM13⟩
  have HSI13 := Lib.hid (HSI12.out.go HB5.out hM13)
  have HW13 := Lib.hid hW13
  have HS13 := Lib.hid (HS5.out.trans' HSI13.out.1 (fun b hb => .inr (by have := HFB.out; omega)))
  have HY13 := Lib.hid (HY.out.spares HS13.out (fun _ _ _ h => h))
  have HNS : Hid (a = none → s = 0) := Lib.hid (fun e => by have := HNIL.out e; omega)
  clear hW13 hM13 HW12 HSI12 HS12 c0
  go_wp2_with fail
  refine (fwText_any F13 p _ a s s y _ HW13.out HY13.out HYL.out.symm HNS.out (by rw [List.length_append, HHL.out, beN_len, HYL.out]; omega)).mono ?_
  rintro e v14 ⟨rfl, F14, hW14, hM14⟩
  have HSI14 := Lib.hid (HSI13.out.go HB5.out hM14)
  rw [← HL.out] at hW14
  have HS14 := Lib.hid (HS5.out.trans' HSI14.out.1 (fun b hb => .inr (by have := HFB.out; omega)))
  clear hM14 HW13 HSI13 HS13 HY13
  obtain ⟨hf14, hlt14, vv, hv14, ho14, hff⟩ := hW14
  obtain ⟨a14, c14, hvv, _⟩ := ho14.shape
  obtain ⟨N, hN⟩ : ∃ N, L.length = N := ⟨_, rfl⟩
  rw [hN] at hvv
  have HN := Lib.hid hN
  subst hvv
  have c0 : v14.cell? ⟨p, 0, none⟩ = some (.slice a14 N c14) := by rw [Lib.cell_of_heap hv14]; rfl
  have HO14 := Lib.hid ho14
  have HF14 := Lib.hid hff
  clear hf14 hlt14 hv14 ho14 hff hN
  go_wp2
  go_ret
  exact ⟨a14, c14, by rw [HN.out]; rfl, by rw [HN.out]; exact HO14.out, HS14.out, fun g hg => by
    rw [HN.out] at hg
    have := HSI14.out.2 g (HF14.out g hg)
    have := HFB.out
    omega⟩

theorem frag_any (F : FragD) (P s : Nat) (a : Option Addr) (n c : Nat) (l : List UInt8) (w : World) (hT : Steps w) (hl : BytesAt w a l) (hn : n = l.length) (hnil : a = none → c = 0) (hnc : n ≤ c) (hmax : n ≤ 140737488351232)
    (hK : F.K.length = 32) (hS : F.S.length = 32) (hP : IntKind.u32.wrap F.part = (P : Int)) (hs : min n 4096 = s) :
    Calls Tryd.prog 10 #[.agg (fragA F), .slice a n c] w (FragPost (fragB F.K P F.last F.turn (l.take s)) w) := by
  cases h : F.last with
  | true => exact frag_true F P s a n c l w hT hl hn hnil hnc hmax hK hS hP hs h
  | false => exact frag_false F P s a n c l w hT hl hn hnil hnc hmax hK hS hP hs h
end Go.Proofs.YtimpnnhadjfijaaDoor
