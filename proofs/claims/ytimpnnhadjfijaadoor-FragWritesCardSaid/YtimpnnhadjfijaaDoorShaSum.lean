/-
  Sum: the SHA-256 of any bytes.
-/
import Derived.Test.YtimpnnhadjfijaaDoorShaPad
import Derived.Deep.MidRow
import Derived.Deep.WholeRow
namespace Go.Proofs.YtimpnnhadjfijaaDoor
open Go.RowKit

def z72 : List Value := List.replicate 72 (.int .u32 0)
def z8 : List Value := List.replicate 8 (.int .u32 0)
theorem first_start : firstV.toList = stV startS := by kernel_rfl
theorem zero_sum : (∀ w, (zeroValue 84).run Tryd.prog w = .ok (.agg (sumCells 0 0 (.int .u32 0) z72 z8)) w) ∧ (Tryd.prog.info? 84).map (·.size) = some 83 := zero_of_info (by kernel_rfl)
theorem words_new (w : World) (o : Obj) :
    Calls Tryd.prog 34 #[.pointer (some ⟨w.heap.size + 1, 0, none⟩)] ((w.alloc o).alloc (.cells (sumCells 0 0 (.int .u32 0) z72 z8) 84)) (Made (w.heap.size + 1) (.int .u32 0) z8 ((w.alloc o).alloc (.cells (sumCells 0 0 (.int .u32 0) z72 z8) 84))) := by
  have h := heap_alloc_new (w.alloc o) (.cells (sumCells 0 0 (.int .u32 0) z72 z8) 84)
  rw [show (w.alloc o).heap.size = w.heap.size + 1 by simp] at h
  exact words_any (w.heap.size + 1) 0 (.int .u32 0) z72 z8 _ h (by simp [z72]) (.inl rfl)
theorem range_of {w : World} {p : Nat} {cs : Array Value} {t : TypeId} (h : w.heap[p]? = some (.cells cs t (0, 0))) (o : Nat) (vs : List Value) (hv : ∀ j v, vs[j]? = some v → cs[o + j]? = some v) : w.rangeAt p o vs := fun j v hj => by
  rw [Lib.cell_of_heap h]; exact hv j v hj
theorem there_of {w : World} {p : Nat} {cs : Array Value} {t : TypeId} (h : w.heap[p]? = some (.cells cs t (0, 0))) (o n : Nat) (hn : o + n ≤ cs.size) : w.there p o n := fun j hj => by
  constructor
  · rw [Lib.cell_of_heap h, Array.getElem?_eq_getElem (by omega)]; rfl
  · exact heap_frozen h _
theorem first_len : firstV.size = 8 := by kernel_rfl
theorem sum_first (z : Value) (st : List Value) : ∀ j v, firstV.toList[j]? = some v → (sumCells 1 0 z madeV st)[3 + j]? = some v := by
  intro j v hj
  have hlt : j < firstV.toList.length := (List.getElem?_eq_some_iff.1 hj).1
  unfold sumCells onceV
  rw [List.getElem?_toArray, show 3 + j = j + 1 + 1 + 1 by omega, List.cons_append, List.cons_append, List.cons_append, List.nil_append, List.getElem?_cons_succ, List.getElem?_cons_succ, List.getElem?_cons_succ, madeV_words, List.append_assoc, List.getElem?_append_left hlt, hj]
theorem sum_state (z : Value) (s : S8) : ∀ j v, (stV s)[j]? = some v → (sumCells 1 0 z madeV (stV s))[75 + j]? = some v := fun j v hj => by
  rw [sum_cell 1 0 z madeV _ madeV_len]; exact hj
theorem state_set {w : World} {p : Nat} {z : Value} {st : List Value} (hst : st.length = 8) (h : w.heap[p]? = some (.cells (sumCells 1 0 z madeV st) 84 (0, 0))) : (w.setCells p 75 firstV.toList).heap[p]? = some (.cells (sumCells 1 0 z madeV (stV startS)) 84 (0, 0)) := by
  have h2 := heap_setCells (g := p) (t := 84) firstV.toList (onceV 1 0 z ++ madeV) st [] w (by rw [List.append_nil, List.append_assoc]; exact h) (by rw [hst]; exact first_len.symm)
  rw [show (onceV 1 0 z ++ madeV).length = 75 by rw [List.length_append, madeV_len]; rfl] at h2
  rw [h2, ← first_start, List.append_nil, List.append_assoc]
  rfl
theorem sum_size (z : Value) (s : S8) : (sumCells 1 0 z madeV (stV s)).size = 83 := by rw [sumCells_size, madeV_len]; rfl
theorem infoWords : (Tryd.prog.info? 79).map (·.size) = some 8 := by kernel_rfl
theorem infoKey : (Tryd.prog.info? 23).map (·.size) = some 32 := by kernel_rfl
theorem firstV_one : firstV.all (·.oneCell') = true := by kernel_rfl
theorem bytesV_one (l : List UInt8) : (bytesV l).all (·.oneCell') = true := all_oneCell_toArray (byteCells_one l)
theorem slice_key (g k : Nat) (h : k < 8) (w : World) : (Instr.sliceAt 23 (.pointer (some ⟨g, 0, none⟩)) (some (.int .i64 (4 * (k : Int)))) none none).run Tryd.prog w = .ok (.slice (some ⟨g, 4 * k, none⟩) (32 - 4 * k) (32 - 4 * k)) w := by
  obtain rfl | rfl | rfl | rfl | rfl | rfl | rfl | rfl : k = 0 ∨ k = 1 ∨ k = 2 ∨ k = 3 ∨ k = 4 ∨ k = 5 ∨ k = 6 ∨ k = 7 := by omega
  all_goals kernel_rfl
set_option maxRecDepth 100000 in
set_option maxHeartbeats 1000000 in
theorem sum_any (a : Option Addr) (n c : Nat) (l : List UInt8) (w : World) (hl : BytesAt w a l) (hn : n = l.length) (hmax : n ≤ 140737488355328) (hnc : n ≤ c) :
    Calls Tryd.prog 23 #[.slice a n c] w fun e w' => e = .returned (.agg (bytesV (shaF l))) ∧ Spares nowhere w w' := by
  have hw := words_new w (.cells (bytesV (List.replicate 32 0)) 23)
  have hzv := zero_sum.1
  have hs2 : Spares nowhere w ((w.alloc (.cells (bytesV (List.replicate 32 0)) 23)).alloc (.cells (sumCells 0 0 (.int .u32 0) z72 z8) 84)) := ((Spares.refl _ _).alloc _).alloc _
  have hq2 : ((w.alloc (.cells (bytesV (List.replicate 32 0)) 23)).alloc (.cells (sumCells 0 0 (.int .u32 0) z72 z8) 84)).heap[w.heap.size]? = some (.cells (bytesV (List.replicate 32 0)) 23 (0, 0)) := ((Spares.refl nowhere (w.alloc (.cells (bytesV (List.replicate 32 0)) 23))).alloc _).heap (heap_alloc_new w _) (fun h => h)
  obtain ⟨C, hC⟩ : ∃ C, sumCells 0 0 (.int .u32 0) z72 z8 = C := ⟨_, rfl⟩
  rw [hC] at hw hzv hs2 hq2
  clear hC
  obtain ⟨p, hp⟩ : ∃ p, w.heap.size + 1 = p := ⟨_, rfl⟩
  rw [hp] at hw
  have HW := Lib.hid hw
  have HS2 := Lib.hid hs2
  have HQ2 := Lib.hid hq2
  have HN := Lib.hid hn
  have HL := Lib.hid hl
  clear hw hs2 hq2 hn hl
  go_enter Tryd.func23, Tryd.ntmps23
  go_wp2_with fail
  refine HW.out.mono ?_
  rintro e w3 ⟨rfl, hg3, hs3⟩
  have HG3 := Lib.hid hg3
  have HS3 := Lib.hid (HS2.out.trans' hs3 (fun b hb => .inr (by subst hb; omega)))
  have HQ3 := Lib.hid (hs3.heap HQ2.out (fun h => by omega))
  clear hg3 hs3 HW HS2 HQ2
  have hr3 : w3.rangeAt p 3 firstV.toList := range_of HG3.out 3 _ (sum_first _ _)
  have ht3 : w3.there p 75 firstV.size := there_of HG3.out 75 8 (by rw [sumCells_size, madeV_len]; simp [z8])
  have HR3 := Lib.hid hr3
  have HT3 := Lib.hid ht3
  clear hr3 ht3
  obtain ⟨q, hq⟩ : ∃ q, w.heap.size = q := ⟨_, rfl⟩
  rw [hq]
  rw [hq] at HQ3
  have HPQ : Hid (w.heap.size = q ∧ q + 1 = p) := Lib.hid ⟨hq, by omega⟩
  clear hp hq
  go_wp2_with (first
    | ((with_reducible show wpList _ _ _ (⟨some 11, _, _, _, _, _⟩ :: _) _ _); refine wpList_load_mid rfl 79 (.tmp 10) rfl p 3 rfl firstV.toList _ HR3.out Tryd.underlying79 rfl infoWords ?_)
    | ((with_reducible show wpList _ _ _ (⟨none, .store 79 _ _, _, _, _, _⟩ :: _) _ _); refine wpList_store_mid rfl 79 (.tmp 12) (.tmp 11) rfl p 75 firstV rfl rfl HT3.out infoWords firstV_one ?_))
  have HG4 := Lib.hid (state_set (by simp [z8]) HG3.out)
  have hsp4 : Spares (fun b => b = p) w3 (w3.setCells p 75 firstV.toList) := spares_setCells _ _ _ (Spares.refl _ _)
  have HS4 := Lib.hid (HS3.out.trans' hsp4 (fun b hb => .inr (by have := HPQ.out; omega)))
  have HQ4 := Lib.hid (hsp4.heap HQ3.out (fun h => by have := HPQ.out; omega))
  obtain ⟨w4, hw4⟩ : ∃ w4, w3.setCells p 75 firstV.toList = w4 := ⟨_, rfl⟩
  rw [hw4] at HG4 HS4 HQ4
  rw [hw4]
  clear hw4 hsp4 HG3 HS3 HR3 HT3 HQ3 hzv
  have hbp : 0 < l.length → ∀ b off, a = some ⟨b, off, none⟩ → b ≠ p := fun h0 b off he => by
    obtain ⟨b', off', he', hc⟩ := HL.out 0 h0
    rw [he] at he'
    cases he'
    rcases Nat.lt_or_ge b w.heap.size with h | h
    · have := HPQ.out; omega
    · simp [World.cell?, Array.getElem?_eq_none h] at hc
  refine (take_bytes p _ startS a n c l w4 HG4.out (HL.out.spares HS4.out (fun _ _ _ h => h)) HN.out (by omega) hnc hbp).mono ?_
  rintro e w5 ⟨m, r, c1, a1, h1, h2, rfl, hl5, hg5, hs5⟩
  have HG5 := Lib.hid hg5
  have HS5 := Lib.hid (HS4.out.trans' hs5 (fun b hb => .inr (by have := HPQ.out; omega)))
  have HQ5 := Lib.hid (hs5.heap HQ4.out (fun h => by have := HPQ.out; omega))
  have hdl : (l.drop (64 * m)).length = r := by rw [List.length_drop]; omega
  have HE := Lib.hid (ending_size (endSize r) (by unfold endSize; split <;> simp) a1 r c1 n (l.drop (64 * m)) w5 hl5 hdl h2 rfl (by omega) (by omega))
  have H1 := Lib.hid (show r + 64 * m = l.length ∧ r < 64 from ⟨h1, h2⟩)
  clear hg5 hs5 hdl hl5 h1 h2 hbp HG4 HS4 HQ4
  go_wp2_with fail
  refine HE.out.mono ?_
  rintro e w6 ⟨rfl, hg6, hs6⟩
  obtain ⟨g, hgw⟩ : ∃ g, w5.heap.size = g := ⟨_, rfl⟩
  rw [hgw] at hg6
  rw [hgw]
  have hpg : p < g := by rw [← hgw]; exact (Array.getElem?_eq_some_iff.1 HG5.out).1
  obtain ⟨E, hE⟩ : ∃ E, endS (l.drop (64 * m)) (endSize r) n = E := ⟨_, rfl⟩
  rw [hE] at hg6
  have hel : E.length = endSize r := by rw [← hE]; exact endS_len _ _ r (by rw [List.length_drop]; have := H1.out; omega) H1.out.2
  obtain ⟨sz, hsz⟩ : ∃ sz, endSize r = sz := ⟨_, rfl⟩
  have hsz1 : sz = 64 ∨ sz = 128 := by rw [← hsz]; unfold endSize; split <;> simp
  rw [hsz] at hel
  rw [hsz]
  have HT := Lib.hid (take_bytes p (.int .u32 0) (takeS m startS l) (some ⟨g, 0, none⟩) sz sz E w6 (hs6.heap HG5.out (fun h => h)) (bytesV_at hg6) hel.symm (by omega) (Nat.le_refl _) (fun _ b off he => by cases he; omega))
  have HS6 := Lib.hid (HS5.out.trans hs6)
  have HQ6 := Lib.hid (hs6.heap HQ5.out (fun h => h))
  have HEE := Lib.hid (show endS (l.drop (64 * m)) (endSize r) l.length = E ∧ endSize r = sz ∧ E.length = sz from ⟨by rw [← HN.out]; exact hE, hsz, hel⟩)
  clear hg6 hs6 hgw hpg hE hel hsz hsz1 HE HG5 HS5 HQ5
  go_wp2_with fail
  refine HT.out.mono ?_
  rintro e w7 ⟨m2, r2, c2, a2, h1, h2, rfl, _, hg7, hs7⟩
  have hm2 : 64 * m2 = endSize r := by
    have h3 := HEE.out.2
    have h4 : endSize r = 64 ∨ endSize r = 128 := by unfold endSize; split <;> simp
    omega
  have hst := sum_split l m r m2 H1.out.1 H1.out.2 hm2
  rw [HEE.out.1] at hst
  obtain ⟨S, hS⟩ : ∃ S, takeS ((padS l).length / 64) startS (padS l) = S := ⟨_, rfl⟩
  rw [hst, hS] at hg7
  have HSH : Hid (outK 8 S = shaF l) := Lib.hid (by rw [outK_all, shaF, hS])
  have HG7 := Lib.hid hg7
  have HS7 := Lib.hid (HS6.out.trans' hs7 (fun b hb => .inr (by have := HPQ.out; omega)))
  have HQ7 := Lib.hid (hs7.heap HQ6.out (fun h => by have := HPQ.out; omega))
  clear h1 h2 hm2 hst hS hg7 hs7 HT HEE H1 HS6 HQ6
  have hg8 := ((Spares.refl nowhere w7).alloc (.cells (bytesV (List.replicate 32 0)) 23)).heap HG7.out (fun h => h)
  have hq8 := ((Spares.refl nowhere w7).alloc (.cells (bytesV (List.replicate 32 0)) 23)).heap HQ7.out (fun h => h)
  have hk8 := heap_alloc_new w7 (.cells (bytesV (List.replicate 32 0)) 23)
  obtain ⟨kb, hkb⟩ : ∃ kb, w7.heap.size = kb := ⟨_, rfl⟩
  rw [hkb] at hk8
  obtain ⟨L, hL⟩ : ∃ L, stV S = L := ⟨_, rfl⟩
  have hr8 : (w7.alloc (.cells (bytesV (List.replicate 32 0)) 23)).rangeAt p 75 L := range_of hg8 75 _ (by rw [← hL]; exact sum_state _ _)
  have hLl : L.length = 8 := by rw [← hL]; rfl
  have infoL : (Tryd.prog.info? 79).map (·.size) = some L.length := by rw [hLl]; exact infoWords
  have HL8 := Lib.hid hL
  have HR8 := Lib.hid hr8
  have HS8 := Lib.hid (HS7.out.alloc (.cells (bytesV (List.replicate 32 0)) 23))
  have HQ8 := Lib.hid hq8
  have HK8 : Hid ((w7.alloc (.cells (bytesV (List.replicate 32 0)) 23)).heap[kb]? = some (.cells (bytesV (outK 0 S)) 23 (0, 0))) := Lib.hid (by rw [outK_none]; exact hk8)
  have HKB := Lib.hid (show w.heap.size ≤ kb ∧ q < kb from ⟨by rw [← hkb]; exact HS7.out.size, by rw [← hkb]; exact (Array.getElem?_eq_some_iff.1 HQ7.out).1⟩)
  clear hg8 hq8 hk8 hL hr8 HG7 HS7 HQ7
  go_wp2_with (first
    | ((with_reducible show wpList _ _ _ (⟨some 21, _, _, _, _, _⟩ :: _) _ _); refine wpList_load_mid rfl 79 (.tmp 20) rfl p 75 rfl L _ HR8.out Tryd.underlying79 rfl infoL ?_))
  obtain ⟨A, hA⟩ : ∃ A, L.toArray = A := ⟨_, rfl⟩
  rw [hA]
  have HA := Lib.hid hA
  clear hA hLl infoL
  go_loopw [22] (fun i wr => ∃ (k : Nat), k ≤ 8 ∧ i = .int .i64 k ∧ Hid (wr.heap[kb]? = some (.cells (bytesV (outK k S)) 23 (0, 0))) ∧ Hid (wr.heap[q]? = some (.cells (bytesV (List.replicate 32 0)) 23 (0, 0))) ∧ Hid (Spares nowhere w wr)) (fun i _ => 8 - (intOf i).toNat)
  case atStart => exact ⟨0, by omega, rfl, HK8, HQ8, HS8⟩
  clear HK8 HQ8 HS8 HR8
  case round =>
    obtain ⟨k, hk, rfl, HK1, HQ1, HS1⟩ := hrel
    by_cases hlt : k < 8
    · have i1 : (k : Int) < 8 := by omega
      have i2 : (4 : Int) * (k : Int) ≤ 32 := by omega
      have i3 : ¬ ((32 : Int) = 4 * (k : Int)) := by omega
      have i4 : ¬ (32 - 4 * k = 0) := by omega
      have i5 : ¬ (32 = 4 * k) := by omega
      have i6 : (4 : Int) * (k : Int) < 32 := by omega
      obtain ⟨y, hy⟩ : ∃ y, (wl S).getD k 0 = y := ⟨_, rfl⟩
      have hix : A[k]? = some (.int .u32 y.toNat) := by rw [← hy, ← HA.out, ← HL8.out, List.getElem?_toArray]; exact stV_get k hlt S
      have hidx := index_words A k _ hlt hix
      have HP := Lib.hid (putWord_any y kb (4 * k) (32 - 4 * k) (32 - 4 * k) _ _ wr (by omega) HK1.out (by rw [bytesV_size, outK_len k hk]; omega))
      have hsl := slice_key kb k hlt
      have HY := Lib.hid hy
      clear hy hix
      go_wp2_with fail
      refine HP.out.mono ?_
      rintro e w9 ⟨rfl, rfl⟩
      go_wp2
      go_roundw
      case rel =>
        refine ⟨k + 1, by omega, by go_num, Lib.hid ?_, Lib.hid ?_, Lib.hid ?_⟩
        · refine (put4_heap HK1.out (4 * k) y).trans ?_
          rw [← HY.out, outK_step k hlt S]
        · exact (put4_spares wr kb (4 * k) y).heap HQ1.out (fun h => by have := HKB.out; omega)
        · exact HS1.out.trans' (put4_spares wr kb (4 * k) y) (fun b hb => .inr (by have := HKB.out; omega))
      case measure => simp [intOf]; omega
    · obtain rfl : k = 8 := by omega
      have hrk : wr.rangeAt kb 0 (Lib.byteCells (outK 8 S)) := range_of HK1.out 0 _ (fun j v hj => by rw [Nat.zero_add, bytesV, List.getElem?_toArray]; exact hj)
      have htq : wr.there q 0 (bytesV (outK 8 S)).size := there_of HQ1.out 0 _ (by rw [bytesV_size, bytesV_size, outK_len 8 (by omega)]; simp)
      have hgq : (wr.setCells q 0 (Lib.byteCells (outK 8 S))).heap[q]? = some (.cells (bytesV (outK 8 S)) 23 (0, 0)) := by
        have := heap_setCells (g := q) (t := 23) (Lib.byteCells (outK 8 S)) [] (Lib.byteCells (List.replicate 32 0)) [] wr (by rw [List.append_nil]; exact HQ1.out) (by rw [byteCells_len, byteCells_len, outK_len 8 (by omega)]; simp)
        rw [List.append_nil] at this
        exact this
      have HR := Lib.hid hrk
      have HT := Lib.hid htq
      have HGQ := Lib.hid hgq
      have infoB : (Tryd.prog.info? 23).map (·.size) = some (Lib.byteCells (outK 8 S)).length := by rw [byteCells_len, outK_len 8 (by omega)]; exact infoKey
      have infoC : (Tryd.prog.info? 23).map (·.size) = some (bytesV (outK 8 S)).size := by rw [bytesV_size, outK_len 8 (by omega)]; exact infoKey
      have HI1 := Lib.hid infoB
      have HI2 := Lib.hid infoC
      clear hrk htq hgq infoB infoC hk hlt HK1
      go_wp2_with (first
        | ((with_reducible show wpList _ _ _ (⟨some 32, _, _, _, _, _⟩ :: _) _ _); refine wpList_load_mid rfl 23 (.tmp 5) rfl kb 0 rfl (Lib.byteCells (outK 8 S)) _ HR.out Tryd.underlying23 rfl HI1.out ?_)
        | ((with_reducible show wpList _ _ _ (⟨none, .store 23 _ _, _, _, _, _⟩ :: _) _ _); refine wpList_store_mid rfl 23 (.tmp 2) (.tmp 32) rfl q 0 (bytesV (outK 8 S)) rfl rfl HT.out HI2.out (bytesV_one _) ?_))
      rw [← HSH.out]
      exact bodyPost_ret (v := .agg (bytesV (outK 8 S))) (results_cell_row rfl _ _ q 23 (bytesV (outK 8 S)) (0, 0) _ rfl HGQ.out Tryd.underlying23 (by rfl) HI2.out) rfl ⟨rfl, HS1.out.trans' (F' := fun b => b = q) (spares_setCells _ _ _ (Spares.refl _ _)) (fun b hb => .inr (by have := HPQ.out; omega))⟩
end Go.Proofs.YtimpnnhadjfijaaDoor
