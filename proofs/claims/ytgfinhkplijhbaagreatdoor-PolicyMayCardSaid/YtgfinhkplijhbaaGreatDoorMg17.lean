/-
  Sum: the SHA-256 of any bytes.
  Key: the sum of the parts, each behind its length.
  The reference's Sum: parts of its walk.
  The reference's Sum is the same sum.
-/
import Derived.Deep.MidRow
import Derived.Deep.WholeRow
import Derived.BigQuiet
import Derived.Test.YtgfinhkplijhbaaGreatDoorMg7
import Derived.Test.YtgfinhkplijhbaaGreatDoorMg16
import Derived.Test.YtgfinhkplijhbaaGreatDoorMg27
namespace Go.Proofs.YtgfinhkplijhbaaGreatDoor
open Go.RowKit

def z72 : List Value := List.replicate 72 (.int .u32 0)
def z8 : List Value := List.replicate 8 (.int .u32 0)
theorem first_start : firstV.toList = stV startS := by kernel_rfl
theorem zero_sum : (∀ w, (zeroValue 113).run Tryz.prog w = .ok (.agg (sumCells 0 0 (.int .u32 0) z72 z8)) w) ∧ (Tryz.prog.info? 113).map (·.size) = some 83 := zero_of_info (by kernel_rfl)
theorem words_new (w : World) (o : Obj) :
    Calls Tryz.prog 82 #[.pointer (some ⟨w.heap.size + 1, 0, none⟩)] ((w.alloc o).alloc (.cells (sumCells 0 0 (.int .u32 0) z72 z8) 113)) (Made (w.heap.size + 1) (.int .u32 0) z8 ((w.alloc o).alloc (.cells (sumCells 0 0 (.int .u32 0) z72 z8) 113))) := by
  have h := heap_alloc_new (w.alloc o) (.cells (sumCells 0 0 (.int .u32 0) z72 z8) 113)
  rw [show (w.alloc o).heap.size = w.heap.size + 1 by simp] at h
  exact words_any (w.heap.size + 1) 0 (.int .u32 0) z72 z8 _ h (by simp [z72]) (.inl rfl)
theorem range_of {w : World} {p : Nat} {cs : Array Value} {t : TypeId} (h : w.heap[p]? = some (.cells cs t (0, 0))) (o : Nat) (vs : List Value) (hv : ∀ j v, vs[j]? = some v → cs[o + j]? = some v) : w.rangeAt p o vs := fun j v hj => by
  rw [Lib.cell_of_heap h]; exact hv j v hj
theorem there_of {w : World} {p : Nat} {cs : Array Value} {t : TypeId} (h : w.heap[p]? = some (.cells cs t (0, 0))) (o n : Nat) (hn : o + n ≤ cs.size) : w.there p o n := fun j hj => by
  constructor
  · rw [Lib.cell_of_heap h, Array.getElem?_eq_getElem (by omega)]; rfl
  · exact heap_frozen h _
theorem first_len : firstV.size = 8 := by kernel_rfl
theorem sum_first (z : Value) (st : List Value) : ∀ j v, firstV.toList[j]? = some v → (sumCells 1 0 z madeV st)[3 + j]? = some v := by
  intro j v hj
  have hlt : j < firstV.toList.length := (List.getElem?_eq_some_iff.1 hj).1
  unfold sumCells onceV
  rw [List.getElem?_toArray, show 3 + j = j + 1 + 1 + 1 by omega, List.cons_append, List.cons_append, List.cons_append, List.nil_append, List.getElem?_cons_succ, List.getElem?_cons_succ, List.getElem?_cons_succ, madeV_words, List.append_assoc, List.getElem?_append_left hlt, hj]
theorem sum_state (z : Value) (s : S8) : ∀ j v, (stV s)[j]? = some v → (sumCells 1 0 z madeV (stV s))[75 + j]? = some v := fun j v hj => by
  rw [sum_cell 1 0 z madeV _ madeV_len]; exact hj
theorem state_set {w : World} {p : Nat} {z : Value} {st : List Value} (hst : st.length = 8) (h : w.heap[p]? = some (.cells (sumCells 1 0 z madeV st) 113 (0, 0))) : (w.setCells p 75 firstV.toList).heap[p]? = some (.cells (sumCells 1 0 z madeV (stV startS)) 113 (0, 0)) := by
  have h2 := heap_setCells (g := p) (t := 113) firstV.toList (onceV 1 0 z ++ madeV) st [] w (by rw [List.append_nil, List.append_assoc]; exact h) (by rw [hst]; exact first_len.symm)
  rw [show (onceV 1 0 z ++ madeV).length = 75 by rw [List.length_append, madeV_len]; rfl] at h2
  rw [h2, ← first_start, List.append_nil, List.append_assoc]
  rfl
theorem infoWords : (Tryz.prog.info? 108).map (·.size) = some 8 := by kernel_rfl
theorem infoKey : (Tryz.prog.info? 41).map (·.size) = some 32 := by kernel_rfl
theorem firstV_one : firstV.all (·.oneCell') = true := by kernel_rfl
theorem bytesV_one (l : List UInt8) : (bytesV l).all (·.oneCell') = true := all_oneCell_toArray (byteCells_one l)
theorem slice_key (g k : Nat) (h : k < 8) (w : World) : (Instr.sliceAt 41 (.pointer (some ⟨g, 0, none⟩)) (some (.int .i64 (4 * (k : Int)))) none none).run Tryz.prog w = .ok (.slice (some ⟨g, 4 * k, none⟩) (32 - 4 * k) (32 - 4 * k)) w := by
  obtain rfl | rfl | rfl | rfl | rfl | rfl | rfl | rfl : k = 0 ∨ k = 1 ∨ k = 2 ∨ k = 3 ∨ k = 4 ∨ k = 5 ∨ k = 6 ∨ k = 7 := by omega
  all_goals kernel_rfl
set_option maxRecDepth 100000 in
set_option maxHeartbeats 1000000 in
theorem sum_any (a : Option Addr) (n c : Nat) (l : List UInt8) (w : World) (hl : BytesAt w a l) (hn : n = l.length) (hmax : n ≤ 140737488355328) (hnc : n ≤ c) :
    Calls Tryz.prog 65 #[.slice a n c] w fun e w' => e = .returned (.agg (bytesV (shaF l))) ∧ Spares nowhere w w' := by
  have hw := words_new w (.cells (bytesV (List.replicate 32 0)) 41)
  have hzv := zero_sum.1
  have hs2 : Spares nowhere w ((w.alloc (.cells (bytesV (List.replicate 32 0)) 41)).alloc (.cells (sumCells 0 0 (.int .u32 0) z72 z8) 113)) := ((Spares.refl _ _).alloc _).alloc _
  have hq2 : ((w.alloc (.cells (bytesV (List.replicate 32 0)) 41)).alloc (.cells (sumCells 0 0 (.int .u32 0) z72 z8) 113)).heap[w.heap.size]? = some (.cells (bytesV (List.replicate 32 0)) 41 (0, 0)) := ((Spares.refl nowhere (w.alloc (.cells (bytesV (List.replicate 32 0)) 41))).alloc _).heap (heap_alloc_new w _) (fun h => h)
  obtain ⟨C, hC⟩ : ∃ C, sumCells 0 0 (.int .u32 0) z72 z8 = C := ⟨_, rfl⟩
  rw [hC] at hw hzv hs2 hq2
  clear hC
  obtain ⟨p, hp⟩ : ∃ p, w.heap.size + 1 = p := ⟨_, rfl⟩
  rw [hp] at hw
  have HW := Lib.hid hw
  have HS2 := Lib.hid hs2
  have HQ2 := Lib.hid hq2
  have HN := Lib.hid hn
  have HL := Lib.hid hl
  clear hw hs2 hq2 hn hl
  go_enter Tryz.func65, Tryz.ntmps65
  go_wp2_with fail
  refine HW.out.mono ?_
  rintro e w3 ⟨rfl, hg3, hs3⟩
  have HG3 := Lib.hid hg3
  have HS3 := Lib.hid (HS2.out.trans' hs3 (fun b hb => .inr (by subst hb; omega)))
  have HQ3 := Lib.hid (hs3.heap HQ2.out (fun h => by omega))
  clear hg3 hs3 HW HS2 HQ2
  have hr3 : w3.rangeAt p 3 firstV.toList := range_of HG3.out 3 _ (sum_first _ _)
  have ht3 : w3.there p 75 firstV.size := there_of HG3.out 75 8 (by rw [sumCells_size, madeV_len]; simp [z8])
  have HR3 := Lib.hid hr3
  have HT3 := Lib.hid ht3
  clear hr3 ht3
  obtain ⟨q, hq⟩ : ∃ q, w.heap.size = q := ⟨_, rfl⟩
  rw [hq]
  rw [hq] at HQ3
  have HPQ : Hid (w.heap.size = q ∧ q + 1 = p) := Lib.hid ⟨hq, by omega⟩
  clear hp hq
  go_wp2_with (first
    | ((with_reducible show wpList _ _ _ (⟨some 11, _, _, _, _, _⟩ :: _) _ _); refine wpList_load_mid rfl 108 (.tmp 10) rfl p 3 rfl firstV.toList _ HR3.out Tryz.underlying108 rfl infoWords ?_)
    | ((with_reducible show wpList _ _ _ (⟨none, .store 108 _ _, _, _, _, _⟩ :: _) _ _); refine wpList_store_mid rfl 108 (.tmp 12) (.tmp 11) rfl p 75 firstV rfl rfl HT3.out infoWords firstV_one ?_))
  have HG4 := Lib.hid (state_set (by simp [z8]) HG3.out)
  have hsp4 : Spares (fun b => b = p) w3 (w3.setCells p 75 firstV.toList) := spares_setCells _ _ _ (Spares.refl _ _)
  have HS4 := Lib.hid (HS3.out.trans' hsp4 (fun b hb => .inr (by have := HPQ.out; omega)))
  have HQ4 := Lib.hid (hsp4.heap HQ3.out (fun h => by have := HPQ.out; omega))
  obtain ⟨w4, hw4⟩ : ∃ w4, w3.setCells p 75 firstV.toList = w4 := ⟨_, rfl⟩
  rw [hw4] at HG4 HS4 HQ4
  rw [hw4]
  clear hw4 hsp4 HG3 HS3 HR3 HT3 HQ3 hzv
  have hbp : 0 < l.length → ∀ b off, a = some ⟨b, off, none⟩ → b ≠ p := fun h0 b off he => by
    obtain ⟨b', off', he', hc⟩ := HL.out 0 h0
    rw [he] at he'
    cases he'
    rcases Nat.lt_or_ge b w.heap.size with h | h
    · have := HPQ.out; omega
    · simp [World.cell?, Array.getElem?_eq_none h] at hc
  refine (take_bytes p _ startS a n c l w4 HG4.out (HL.out.spares HS4.out (fun _ _ _ h => h)) HN.out (by omega) hnc hbp).mono ?_
  rintro e w5 ⟨m, r, c1, a1, h1, h2, rfl, hl5, hg5, hs5⟩
  have HG5 := Lib.hid hg5
  have HS5 := Lib.hid (HS4.out.trans' hs5 (fun b hb => .inr (by have := HPQ.out; omega)))
  have HQ5 := Lib.hid (hs5.heap HQ4.out (fun h => by have := HPQ.out; omega))
  have hdl : (l.drop (64 * m)).length = r := by rw [List.length_drop]; omega
  have HE := Lib.hid (ending_size (endSize r) (by unfold endSize; split <;> simp) a1 r c1 n (l.drop (64 * m)) w5 hl5 hdl h2 rfl (by omega) (by omega))
  have H1 := Lib.hid (show r + 64 * m = l.length ∧ r < 64 from ⟨h1, h2⟩)
  clear hg5 hs5 hdl hl5 h1 h2 hbp HG4 HS4 HQ4
  go_wp2_with fail
  refine HE.out.mono ?_
  rintro e w6 ⟨rfl, hg6, hs6⟩
  obtain ⟨g, hgw⟩ : ∃ g, w5.heap.size = g := ⟨_, rfl⟩
  rw [hgw] at hg6
  rw [hgw]
  have hpg : p < g := by rw [← hgw]; exact (Array.getElem?_eq_some_iff.1 HG5.out).1
  obtain ⟨E, hE⟩ : ∃ E, endS (l.drop (64 * m)) (endSize r) n = E := ⟨_, rfl⟩
  rw [hE] at hg6
  have hel : E.length = endSize r := by rw [← hE]; exact endS_len _ _ r (by rw [List.length_drop]; have := H1.out; omega) H1.out.2
  obtain ⟨sz, hsz⟩ : ∃ sz, endSize r = sz := ⟨_, rfl⟩
  have hsz1 : sz = 64 ∨ sz = 128 := by rw [← hsz]; unfold endSize; split <;> simp
  rw [hsz] at hel
  rw [hsz]
  have HT := Lib.hid (take_bytes p (.int .u32 0) (takeS m startS l) (some ⟨g, 0, none⟩) sz sz E w6 (hs6.heap HG5.out (fun h => h)) (bytesV_at hg6) hel.symm (by omega) (Nat.le_refl _) (fun _ b off he => by cases he; omega))
  have HS6 := Lib.hid (HS5.out.trans hs6)
  have HQ6 := Lib.hid (hs6.heap HQ5.out (fun h => h))
  have HEE := Lib.hid (show endS (l.drop (64 * m)) (endSize r) l.length = E ∧ endSize r = sz ∧ E.length = sz from ⟨by rw [← HN.out]; exact hE, hsz, hel⟩)
  clear hg6 hs6 hgw hpg hE hel hsz hsz1 HE HG5 HS5 HQ5
  go_wp2_with fail
  refine HT.out.mono ?_
  rintro e w7 ⟨m2, r2, c2, a2, h1, h2, rfl, _, hg7, hs7⟩
  have hm2 : 64 * m2 = endSize r := by
    have h3 := HEE.out.2
    have h4 : endSize r = 64 ∨ endSize r = 128 := by unfold endSize; split <;> simp
    omega
  have hst := sum_split l m r m2 H1.out.1 H1.out.2 hm2
  rw [HEE.out.1] at hst
  obtain ⟨S, hS⟩ : ∃ S, takeS ((padS l).length / 64) startS (padS l) = S := ⟨_, rfl⟩
  rw [hst, hS] at hg7
  have HSH : Hid (outK 8 S = shaF l) := Lib.hid (by rw [outK_all, shaF, hS])
  have HG7 := Lib.hid hg7
  have HS7 := Lib.hid (HS6.out.trans' hs7 (fun b hb => .inr (by have := HPQ.out; omega)))
  have HQ7 := Lib.hid (hs7.heap HQ6.out (fun h => by have := HPQ.out; omega))
  clear h1 h2 hm2 hst hS hg7 hs7 HT HEE H1 HS6 HQ6
  have hg8 := ((Spares.refl nowhere w7).alloc (.cells (bytesV (List.replicate 32 0)) 41)).heap HG7.out (fun h => h)
  have hq8 := ((Spares.refl nowhere w7).alloc (.cells (bytesV (List.replicate 32 0)) 41)).heap HQ7.out (fun h => h)
  have hk8 := heap_alloc_new w7 (.cells (bytesV (List.replicate 32 0)) 41)
  obtain ⟨kb, hkb⟩ : ∃ kb, w7.heap.size = kb := ⟨_, rfl⟩
  rw [hkb] at hk8
  obtain ⟨L, hL⟩ : ∃ L, stV S = L := ⟨_, rfl⟩
  have hr8 : (w7.alloc (.cells (bytesV (List.replicate 32 0)) 41)).rangeAt p 75 L := range_of hg8 75 _ (by rw [← hL]; exact sum_state _ _)
  have hLl : L.length = 8 := by rw [← hL]; rfl
  have infoL : (Tryz.prog.info? 108).map (·.size) = some L.length := by rw [hLl]; exact infoWords
  have HL8 := Lib.hid hL
  have HR8 := Lib.hid hr8
  have HS8 := Lib.hid (HS7.out.alloc (.cells (bytesV (List.replicate 32 0)) 41))
  have HQ8 := Lib.hid hq8
  have HK8 : Hid ((w7.alloc (.cells (bytesV (List.replicate 32 0)) 41)).heap[kb]? = some (.cells (bytesV (outK 0 S)) 41 (0, 0))) := Lib.hid (by rw [outK_none]; exact hk8)
  have HKB := Lib.hid (show w.heap.size ≤ kb ∧ q < kb from ⟨by rw [← hkb]; exact HS7.out.size, by rw [← hkb]; exact (Array.getElem?_eq_some_iff.1 HQ7.out).1⟩)
  clear hg8 hq8 hk8 hL hr8 HG7 HS7 HQ7
  go_wp2_with (first
    | ((with_reducible show wpList _ _ _ (⟨some 21, _, _, _, _, _⟩ :: _) _ _); refine wpList_load_mid rfl 108 (.tmp 20) rfl p 75 rfl L _ HR8.out Tryz.underlying108 rfl infoL ?_))
  obtain ⟨A, hA⟩ : ∃ A, L.toArray = A := ⟨_, rfl⟩
  rw [hA]
  have HA := Lib.hid hA
  clear hA hLl infoL
  go_loopw [22] (fun i wr => ∃ (k : Nat), k ≤ 8 ∧ i = .int .i64 k ∧ Hid (wr.heap[kb]? = some (.cells (bytesV (outK k S)) 41 (0, 0))) ∧ Hid (wr.heap[q]? = some (.cells (bytesV (List.replicate 32 0)) 41 (0, 0))) ∧ Hid (Spares nowhere w wr)) (fun i _ => 8 - (intOf i).toNat)
  case atStart => exact ⟨0, by omega, rfl, HK8, HQ8, HS8⟩
  clear HK8 HQ8 HS8 HR8
  case round =>
    obtain ⟨k, hk, rfl, HK1, HQ1, HS1⟩ := hrel
    by_cases hlt : k < 8
    · have i1 : (k : Int) < 8 := by omega
      have i2 : (4 : Int) * (k : Int) ≤ 32 := by omega
      have i3 : ¬ ((32 : Int) = 4 * (k : Int)) := by omega
      have i4 : ¬ (32 - 4 * k = 0) := by omega
      have i5 : ¬ (32 = 4 * k) := by omega
      have i6 : (4 : Int) * (k : Int) < 32 := by omega
      obtain ⟨y, hy⟩ : ∃ y, (wl S).getD k 0 = y := ⟨_, rfl⟩
      have hix : A[k]? = some (.int .u32 y.toNat) := by rw [← hy, ← HA.out, ← HL8.out, List.getElem?_toArray]; exact stV_get k hlt S
      have hidx := index_words A k _ hlt hix
      have HP := Lib.hid (putWord_any y kb (4 * k) (32 - 4 * k) (32 - 4 * k) _ _ wr (by omega) HK1.out (by rw [bytesV_size, outK_len k hk]; omega))
      have hsl := slice_key kb k hlt
      have HY := Lib.hid hy
      clear hy hix
      go_wp2_with fail
      refine HP.out.mono ?_
      rintro e w9 ⟨rfl, rfl⟩
      go_wp2
      go_roundw
      case rel =>
        refine ⟨k + 1, by omega, by go_num, Lib.hid ?_, Lib.hid ?_, Lib.hid ?_⟩
        · refine (put4_heap HK1.out (4 * k) y).trans ?_
          rw [← HY.out, outK_step k hlt S]
        · exact (put4_spares wr kb (4 * k) y).heap HQ1.out (fun h => by have := HKB.out; omega)
        · exact HS1.out.trans' (put4_spares wr kb (4 * k) y) (fun b hb => .inr (by have := HKB.out; omega))
      case measure => simp [intOf]; omega
    · obtain rfl : k = 8 := by omega
      have hrk : wr.rangeAt kb 0 (Lib.byteCells (outK 8 S)) := range_of HK1.out 0 _ (fun j v hj => by rw [Nat.zero_add, bytesV, List.getElem?_toArray]; exact hj)
      have htq : wr.there q 0 (bytesV (outK 8 S)).size := there_of HQ1.out 0 _ (by rw [bytesV_size, bytesV_size, outK_len 8 (by omega)]; simp)
      have hgq : (wr.setCells q 0 (Lib.byteCells (outK 8 S))).heap[q]? = some (.cells (bytesV (outK 8 S)) 41 (0, 0)) := by
        have := heap_setCells (g := q) (t := 41) (Lib.byteCells (outK 8 S)) [] (Lib.byteCells (List.replicate 32 0)) [] wr (by rw [List.append_nil]; exact HQ1.out) (by rw [byteCells_len, byteCells_len, outK_len 8 (by omega)]; simp)
        rw [List.append_nil] at this
        exact this
      have HR := Lib.hid hrk
      have HT := Lib.hid htq
      have HGQ := Lib.hid hgq
      have infoB : (Tryz.prog.info? 41).map (·.size) = some (Lib.byteCells (outK 8 S)).length := by rw [byteCells_len, outK_len 8 (by omega)]; exact infoKey
      have infoC : (Tryz.prog.info? 41).map (·.size) = some (bytesV (outK 8 S)).size := by rw [bytesV_size, outK_len 8 (by omega)]; exact infoKey
      have HI1 := Lib.hid infoB
      have HI2 := Lib.hid infoC
      clear hrk htq hgq infoB infoC hk hlt HK1
      go_wp2_with (first
        | ((with_reducible show wpList _ _ _ (⟨some 32, _, _, _, _, _⟩ :: _) _ _); refine wpList_load_mid rfl 41 (.tmp 5) rfl kb 0 rfl (Lib.byteCells (outK 8 S)) _ HR.out Tryz.underlying41 rfl HI1.out ?_)
        | ((with_reducible show wpList _ _ _ (⟨none, .store 41 _ _, _, _, _, _⟩ :: _) _ _); refine wpList_store_mid rfl 41 (.tmp 2) (.tmp 32) rfl q 0 (bytesV (outK 8 S)) rfl rfl HT.out HI2.out (bytesV_one _) ?_))
      rw [← HSH.out]
      exact bodyPost_ret (v := .agg (bytesV (outK 8 S))) (results_cell_row rfl _ _ q 41 (bytesV (outK 8 S)) (0, 0) _ rfl HGQ.out Tryz.underlying41 (by rfl) HI2.out) rfl ⟨rfl, HS1.out.trans' (F' := fun b => b = q) (spares_setCells _ _ _ (Spares.refl _ _)) (fun b hb => .inr (by have := HPQ.out; omega))⟩
end Go.Proofs.YtgfinhkplijhbaaGreatDoor
namespace Go.Proofs.YtgfinhkplijhbaaGreatDoor
open Go.RowKit

def be4 (n : Nat) : List UInt8 := [byW (UInt32.ofNat n) 0, byW (UInt32.ofNat n) 1, byW (UInt32.ofNat n) 2, byW (UInt32.ofNat n) 3]
def keyText (ps : List ByteArray) : List UInt8 := ps.flatMap fun p => be4 p.size ++ p.data.toList
theorem keyText_take (ps : List ByteArray) (k : Nat) (h : k < ps.length) : keyText (ps.take (k + 1)) = (keyText (ps.take k) ++ be4 (ps[k]).size) ++ (ps[k]).data.toList := by
  have e : ps.take (k + 1) = ps.take k ++ [ps[k]] := by rw [List.take_add_one, List.getElem?_eq_getElem h]; rfl
  unfold keyText
  rw [e, List.flatMap_append, List.append_assoc]
  simp only [List.flatMap_cons, List.flatMap_nil, List.append_nil]
theorem toList_size (p : ByteArray) : p.data.toList.length = p.size := by rw [Array.length_toList]; rfl
theorem keyText_le (ps : List ByteArray) (k : Nat) : (keyText (ps.take k)).length ≤ (keyText ps).length := by
  have h : keyText ps = keyText (ps.take k) ++ keyText (ps.drop k) := by
    unfold keyText
    rw [← List.flatMap_append, List.take_append_drop]
  rw [h, List.length_append]; omega
theorem slice_four (g : Nat) (w : World) : (Instr.sliceAt 81 (.pointer (some ⟨g, 0, none⟩)) none none none).run Tryz.prog w = .ok (.slice (some ⟨g, 0, none⟩) 4 4) w := by kernel_rfl
set_option maxRecDepth 100000 in
set_option maxHeartbeats 1000000 in
theorem key_any (a : Option Addr) (n c : Nat) (ps : List ByteArray) (w : World) (hl : StrsAt w a ps) (hn : n = ps.length) (hmax : (keyText ps).length ≤ 140737488355328) (hn63 : n < 9223372036854775808) :
    Calls Tryz.prog 41 #[.slice a n c] w fun e w' => e = .returned (.agg (bytesV (shaF (keyText ps)))) ∧ Spares nowhere w w' := by
  have HL := Lib.hid hl
  have HN := Lib.hid hn
  have HM := Lib.hid hmax
  have HS1 := Lib.hid ((Spares.refl nowhere w).alloc (.cells (bytesV (List.replicate 32 0)) 41))
  have HQ1 := Lib.hid (heap_alloc_new w (.cells (bytesV (List.replicate 32 0)) 41))
  clear hl hn hmax
  go_enter Tryz.func41, Tryz.ntmps41
  go_wp2
  go_loopw [3, 12] (fun s i wr => ∃ k : Nat, k ≤ n ∧ i = .int .i64 k ∧ s = .int .i64 ((keyText (ps.take k)).length : Int) ∧ Hid (Spares nowhere w wr) ∧ Hid (wr.heap[w.heap.size]? = some (.cells (bytesV (List.replicate 32 0)) 41 (0, 0)))) (fun _ i _ => n - (intOf i).toNat)
  case atStart => exact ⟨0, by omega, rfl, rfl, HS1, HQ1⟩
  clear HS1 HQ1
  case round =>
    obtain ⟨k, hk, rfl, rfl, HS1, HQ1⟩ := hrel
    obtain ⟨S, hS⟩ : ∃ S, (keyText (ps.take k)).length = S := ⟨_, rfl⟩
    rw [hS]
    have hSm : S ≤ 140737488355328 := by rw [← hS]; exact Nat.le_trans (keyText_le ps k) HM.out
    have HSS := Lib.hid hS
    clear hS
    by_cases hlt : k < n
    · have hk2 : k < ps.length := by have := HN.out; omega
      obtain ⟨b, off, rfl, hc⟩ := (HL.out.spares HS1.out (fun _ _ _ h => h)) k hk2
      obtain ⟨p, hp⟩ : ∃ p, ps[k] = p := ⟨_, rfl⟩
      rw [hp] at hc
      have hnx : (keyText (ps.take (k + 1))).length = S + (4 + p.size) := by
        rw [keyText_take ps k hk2, List.length_append, List.length_append, HSS.out, hp, toList_size]
        simp only [be4, List.length_cons, List.length_nil]
        omega
      have hnm : S + (4 + p.size) ≤ 140737488355328 := by rw [← hnx]; exact Nat.le_trans (keyText_le ps _) HM.out
      obtain ⟨z, hz⟩ : ∃ z, p.size = z := ⟨_, rfl⟩
      rw [hz] at hnx hnm
      have HNX := Lib.hid hnx
      clear hnx hp
      have i1 : (k : Int) < (n : Int) := by omega
      have i2 : (z : Int) ≤ 140737488355328 := by omega
      have i3 : (S : Int) + (4 + (z : Int)) ≤ 140737488355328 := by omega
      go_wp2
      go_roundw
      case rel =>
        refine ⟨k + 1, by omega, by go_num, ?_, HS1, HQ1⟩
        rw [HNX.out]
        simp
      case measure => simp [intOf]; omega
    · obtain rfl : k = n := by omega
      have hS2 : (keyText ps).length = S := by rw [← HSS.out, List.take_of_length_le (by have := HN.out; omega)]
      have HSS2 := Lib.hid hS2
      have hsz : w.heap.size + 1 ≤ wr.heap.size := (Array.getElem?_eq_some_iff.1 HQ1.out).1
      obtain ⟨B, hB⟩ : ∃ B, w.heap.size + 1 = B := ⟨_, rfl⟩
      rw [hB] at hsz
      have HB := Lib.hid hB
      clear hB
      clear hlt hk HSS hS2
      go_wp2_with ((with_reducible show wpList _ _ _ (⟨some 23, _, _, _, _, _⟩ :: _) _ _); refine wpList_make_row rfl _ _ rfl B .i64 .i64 _ S rfl rfl rfl hSm hsz ?_; intro v1 w2 hr2 hs2)
      have HR2 : Hid (Row8 B w2 v1 (keyText (ps.take 0))) := Lib.hid hr2
      have HS2 := Lib.hid (HS1.out.trans hs2)
      have HQ2 := Lib.hid (hs2.heap HQ1.out (fun h => h))
      clear hr2 hs2 HS1 HQ1 hsz
      go_loopw [6, 26] (fun v i wr => ∃ j : Nat, j ≤ k ∧ i = .int .i64 j ∧ Hid (Row8 B wr v (keyText (ps.take j))) ∧ Hid (Spares nowhere w wr) ∧ Hid (wr.heap[w.heap.size]? = some (.cells (bytesV (List.replicate 32 0)) 41 (0, 0)))) (fun _ i _ => k - (intOf i).toNat)
      case atStart => exact ⟨0, by omega, rfl, HR2, HS2, HQ2⟩
      clear HR2 HS2 HQ2
      case round =>
        obtain ⟨j, hj, rfl, HR1, HS1, HQ1⟩ := hrel
        by_cases hlt : j < k
        · have hk2 : j < ps.length := by have := HN.out; omega
          obtain ⟨b, off, rfl, hc⟩ := (HL.out.spares HS1.out (fun _ _ _ h => h)) j hk2
          obtain ⟨p, hp⟩ : ∃ p, ps[j] = p := ⟨_, rfl⟩
          rw [hp] at hc
          have hnx := keyText_take ps j hk2
          rw [hp] at hnx
          obtain ⟨z, hz⟩ : ∃ z, p.size = z := ⟨_, rfl⟩
          rw [hz] at hnx
          have hle := Nat.le_trans (keyText_le ps (j + 1)) HM.out
          rw [hnx, List.length_append, List.length_append, toList_size, hz] at hle
          obtain ⟨D, hD⟩ : ∃ D, keyText (ps.take j) = D := ⟨_, rfl⟩
          rw [hD] at hnx hle HR1
          have hb4 : (be4 z).length = 4 := rfl
          obtain ⟨X, hX⟩ : ∃ X, UInt32.ofNat z = X := ⟨_, rfl⟩
          have hbe : be4 z = [byW X 0, byW X 1, byW X 2, byW X 3] := by rw [be4, hX]
          have hcv : IntKind.u32.wrap (z : Int) = (X.toNat : Int) := by rw [← hX, u32_ofNat, IntKind.wrap_u32]; omega
          have hcv2 : (z : Int) % 4294967296 = (X.toNat : Int) := by rw [← hcv, IntKind.wrap_u32]
          have hal := heap_alloc_new wr (.cells (bytesV [0, 0, 0, 0]) 81)
          have HP := Lib.hid (putWord_any X wr.heap.size 0 4 4 _ _ _ (by omega) hal (by rw [bytesV_size]; simp))
          have hg5 := put4_heap hal 0 X
          have h4 : set4 (bytesV [0, 0, 0, 0]) 0 X = bytesV [byW X 0, byW X 1, byW X 2, byW X 3] := set4_bytes [] [] 0 0 0 0 X
          rw [h4] at hg5
          have hs5 : Spares nowhere wr (put4 (wr.alloc (.cells (bytesV [0, 0, 0, 0]) 81)) wr.heap.size 0 X) := ((Spares.refl _ _).alloc _).trans' (put4_spares _ _ _ _) (fun b hb => .inr (Nat.le_of_eq hb.symm))
          have hB1 : B ≤ wr.heap.size := by rw [← HB.out]; exact (Array.getElem?_eq_some_iff.1 HQ1.out).1
          obtain ⟨w5, hw5⟩ : ∃ w5, put4 (wr.alloc (.cells (bytesV [0, 0, 0, 0]) 81)) wr.heap.size 0 X = w5 := ⟨_, rfl⟩
          rw [hw5] at hg5 hs5 HP
          obtain ⟨g, hgg⟩ : ∃ g, wr.heap.size = g := ⟨_, rfl⟩
          rw [hgg] at hg5 HP
          have HB5 : Hid (BytesAt w5 (some ⟨g, 0, none⟩) (be4 z)) := Lib.hid (by rw [hbe]; exact bytesV_at hg5)
          have HR5 := Lib.hid (HR1.out.spares hs5 (fun _ _ h => h))
          have HS5 := Lib.hid (HS1.out.trans hs5)
          have HQ5 := Lib.hid (hs5.heap HQ1.out (fun h => h))
          have hB5 : B ≤ w5.heap.size := Nat.le_trans hB1 hs5.size
          have hl1 : D.length + 4 ≤ 140737488355328 := by omega
          have hl2 : (D ++ be4 z).length + p.size ≤ 140737488355328 := by rw [List.length_append, hz]; omega
          have HNX := Lib.hid hnx
          have HD := Lib.hid hD
          have HL1 := Lib.hid hl1
          have HL2 := Lib.hid hl2
          have hsl := slice_four g
          have i1 : (j : Int) < (k : Int) := by omega
          have i2 : (z : Int) ≤ 140737488355328 := by omega
          clear hp hnx hle hD hb4 hX hbe h4 hal hg5 hs5 hB1 hw5 hl1 hl2 hk2 HR1 HS1 HQ1
          go_wp2_with fail
          refine HP.out.mono ?_
          rintro e w5' ⟨rfl, rfl⟩
          go_wp2_with (first
            | ((with_reducible show wpList _ _ _ (⟨some 37, _, _, _, _, _⟩ :: _) _ _); refine wpList_row_bytes rfl _ _ rfl B _ D rfl HR5.out (some ⟨g, 0, none⟩) 4 4 (be4 z) rfl rfl HB5.out (fun e => by cases e) HL1.out hB5 ?_; intro v6 w6 hr6 hs6; have hB6 := Nat.le_trans hB5 hs6.size; have HR6 := Lib.hid hr6; have HS6 := Lib.hid hs6; clear hr6 hs6)
            | ((with_reducible show wpList _ _ _ (⟨some 40, _, _, _, _, _⟩ :: _) _ _); refine wpList_row_str rfl _ _ rfl B v6 _ rfl HR6.out p rfl HL2.out hB6 ?_; intro v7 w7 hr7 hs7; have HR7 := Lib.hid hr7; have HS7 := Lib.hid hs7; clear hr7 hs7))
          go_roundw
          case rel =>
            refine ⟨j + 1, by omega, by go_num, ?_, ?_, ?_⟩
            · rw [HNX.out]; exact HR7
            · exact Lib.hid ((HS5.out.trans' HS6.out (fun b hb => .inr (by have := HB.out; unfold atLeast at hb; omega))).trans' HS7.out (fun b hb => .inr (by have := HB.out; unfold atLeast at hb; omega)))
            · exact Lib.hid (HS7.out.heap (HS6.out.heap HQ5.out (fun h => by have := HB.out; unfold atLeast at h; omega)) (fun h => by have := HB.out; unfold atLeast at h; omega))
          case measure => simp [intOf]; omega
        · obtain rfl : j = k := by omega
          have htk : ps.take j = ps := List.take_of_length_le (by have := HN.out; omega)
          rw [htk] at HR1
          obtain ⟨a7, c7, rfl, hat, _, hc7⟩ := HR1.out.shape
          have HSUM := Lib.hid (sum_any a7 (keyText ps).length c7 (keyText ps) wr hat rfl HM.out hc7)
          clear htk hat hc7 HR1
          go_wp2_with fail
          refine HSUM.out.mono ?_
          rintro e w8 ⟨rfl, hs8⟩
          have HS8 := Lib.hid (HS1.out.trans hs8)
          have hq8 := hs8.heap HQ1.out (fun h => h)
          obtain ⟨R, hR⟩ : ∃ R, shaF (keyText ps) = R := ⟨_, rfl⟩
          have hRl : R.length = 32 := by rw [← hR]; unfold shaF; rw [← outK_all, outK_len 8 (by omega)]
          rw [hR]
          have htq : w8.there w.heap.size 0 (bytesV R).size := there_of hq8 0 _ (by rw [bytesV_size, bytesV_size, hRl]; simp)
          have hgq : (w8.setCells w.heap.size 0 (Lib.byteCells R)).heap[w.heap.size]? = some (.cells (bytesV R) 41 (0, 0)) := by
            have := heap_setCells (g := w.heap.size) (t := 41) (Lib.byteCells R) [] (Lib.byteCells (List.replicate 32 0)) [] w8 (by rw [List.append_nil]; exact hq8) (by rw [byteCells_len, byteCells_len, hRl]; simp)
            rw [List.append_nil] at this
            exact this
          have HT := Lib.hid htq
          have HGQ := Lib.hid hgq
          have infoC : (Tryz.prog.info? 41).map (·.size) = some (bytesV R).size := by rw [bytesV_size, hRl]; exact infoKey
          have HI2 := Lib.hid infoC
          have HRR := Lib.hid hR
          clear htq hgq infoC hq8 hs8 hR hRl HSUM
          go_wp2_with ((with_reducible show wpList _ _ _ (⟨none, .store 41 _ _, _, _, _, _⟩ :: _) _ _); refine wpList_store_mid rfl 41 (.tmp 2) (.tmp 43) rfl w.heap.size 0 (bytesV R) rfl rfl HT.out HI2.out (bytesV_one _) ?_)
          rw [HRR.out]
          exact bodyPost_ret (v := .agg (bytesV R)) (results_cell_row rfl _ _ w.heap.size 41 (bytesV R) (0, 0) _ rfl HGQ.out Tryz.underlying41 (by rfl) HI2.out) rfl ⟨rfl, HS8.out.trans' (F' := fun b => b = w.heap.size) (spares_setCells _ _ _ (Spares.refl _ _)) (fun b hb => .inr (Nat.le_of_eq hb.symm))⟩
end Go.Proofs.YtgfinhkplijhbaaGreatDoor
namespace Go.Proofs.YtgfinhkplijhbaaGreatDoor
open Go.RowKit

set_option maxRecDepth 100000 in
set_option maxHeartbeats 1000000 in
theorem table_any (w : World) : Calls Tryz.prog 85 #[] w fun e w' => e = .returned (.agg roundV) ∧ Spares nowhere w w' := by
  go_enter Tryz.func85, Tryz.ntmps85
  go_wp2_with (first | (refine wpList_buildTo rfl 109 _ rfl (some 1) rfl roundV (by kernel_rfl) ?_) | (refine wpList_store_rowTo rfl 109 _ _ rfl rfl w.heap.size roundV rfl rfl 109 _ (heap_alloc_new w _) (by kernel_rfl) (by kernel_rfl) roundV_one ?_))
  exact bodyPost_ret (v := .agg roundV) (results_cell_row rfl _ _ w.heap.size 109 roundV (0, 0) _ rfl (setRow_heap _ _ _ _ _ _ (heap_alloc_new w _)) Tryz.underlying109 (by rfl) (by kernel_rfl)) rfl ⟨rfl, ((Spares.refl nowhere w).alloc _).trans' (spares_setRow _ _ _) (fun b hb => .inr (by omega))⟩
theorem start_row : (stV startS).toArray = firstV := by kernel_rfl
theorem padS_len (l : List UInt8) : (padS l).length % 64 = 0 ∧ (padS l).length ≤ l.length + 72 ∧ 64 ≤ (padS l).length := by
  unfold padS lenB
  simp only [List.length_append, List.length_replicate, List.length_map, List.length_range, List.length_cons, List.length_nil]
  omega
theorem getD_drop (P : List UInt8) (A j : Nat) : (P.drop A).getD j 0 = P.getD (A + j) 0 := by
  rw [List.getD_eq_getElem?_getD, List.getD_eq_getElem?_getD, List.getElem?_drop]
theorem table_cell {w : World} {q : Nat} (h : w.heap[q]? = some (.cells roundV 109 (0, 0))) (i : Nat) (hi : i < 64) : w.cell? ⟨q, i, none⟩ = some (.int .u32 (roundK.getD i 0).toNat) := by
  have hr : i < roundK.length := by rw [roundK_len]; exact hi
  have e : roundV = (roundK.map v32).toArray := by kernel_rfl
  rw [Lib.cell_of_heap h, e, List.getElem?_toArray, List.getElem?_map, List.getElem?_eq_getElem hr, List.getD_eq_getElem?_getD, List.getElem?_eq_getElem hr]
  rfl
theorem state_cell {w : World} {q : Nat} {S : S8} (h : w.heap[q]? = some (.cells (stV S).toArray 108 (0, 0))) (i : Nat) (hi : i < 8) : w.cell? ⟨q, i, none⟩ = some (.int .u32 ((wl S).getD i 0).toNat) := by
  rw [Lib.cell_of_heap h, List.getElem?_toArray]; exact stV_get i hi S
theorem byte_of (x : UInt32) (r s : Nat) (h : s = 8 * (3 - r)) : ((x.toNat : Int) / 2 ^ s) % 256 = ((byW x r).toNat : Int) := by
  have e : (2 : Int) ^ s = ((256 ^ (3 - r) : Nat) : Int) := by rw [h, show (256 : Nat) = 2 ^ 8 from rfl, ← Nat.pow_mul]; simp
  unfold byW
  rw [UInt8.toNat_ofNat', e, ← Int.natCast_ediv]
  simp
theorem outS_get (S : S8) (k : Nat) (h : k < 32) : (outS S)[k]? = some (byW ((wl S).getD (k / 4) 0) (k % 4)) := by
  have h8 : k = 4 * (k / 4) + k % 4 := by omega
  obtain ⟨d, hd⟩ : ∃ d, k / 4 = d := ⟨_, rfl⟩
  obtain ⟨r, hr⟩ : ∃ r, k % 4 = r := ⟨_, rfl⟩
  rw [hd, hr] at h8 ⊢
  have h1 : d < 8 := by omega
  have h2 : r < 4 := by omega
  subst h8
  obtain rfl | rfl | rfl | rfl | rfl | rfl | rfl | rfl : d = 0 ∨ d = 1 ∨ d = 2 ∨ d = 3 ∨ d = 4 ∨ d = 5 ∨ d = 6 ∨ d = 7 := by omega
  all_goals
    obtain rfl | rfl | rfl | rfl : r = 0 ∨ r = 1 ∨ r = 2 ∨ r = 3 := by omega
    all_goals rfl
theorem outS_take (S : S8) (k : Nat) (h : k < 32) : (outS S).take (k + 1) = (outS S).take k ++ [byW ((wl S).getD (k / 4) 0) (k % 4)] := by
  rw [List.take_add_one, outS_get S k h]; rfl
/-- What stands through the reference's rounds: the key to be, the state, the table, the padded text. -/
structure RefAt (q2 q3 q4 g off : Nat) (P : List UInt8) (w : World) (S : S8) (wr : World) : Prop where
  st : wr.heap[q3]? = some (.cells (stV S).toArray 108 (0, 0))
  tb : wr.heap[q4]? = some (.cells roundV 109 (0, 0))
  key : wr.heap[q2]? = some (.cells (bytesV (List.replicate 32 0)) 40 (0, 0))
  pad : BytesAt wr (some ⟨g, off, none⟩) P
  sp : Spares nowhere w wr
theorem RefAt.keep {q2 q3 q4 g off : Nat} {P : List UInt8} {w : World} {S : S8} {wr wr' : World} {F : Nat → Prop} (h : RefAt q2 q3 q4 g off P w S wr) (hs : Spares F wr wr') (h2 : ¬ F q2) (h3 : ¬ F q3) (h4 : ¬ F q4) (hg : ¬ F g) (hw : ∀ b, F b → w.heap.size ≤ b) : RefAt q2 q3 q4 g off P w S wr' :=
  ⟨hs.heap h.st h3, hs.heap h.tb h4, hs.heap h.key h2, h.pad.spares hs (fun b o e => by cases e; exact hg), h.sp.trans' hs (fun b hb => .inr (hw b hb))⟩
theorem turn_int (x : UInt32) (n : Int) (h0 : 0 < n) (h1 : n < 32) (w : World) : Calls Tryz.prog 87 #[.int .u32 x.toNat, .int .i64 n] w fun e w' => e = .returned (.int .u32 (rotW x n.toNat).toNat) ∧ ∃ n, w' = w.drewN n := by
  obtain ⟨k, rfl⟩ : ∃ k : Nat, n = (k : Int) := ⟨n.toNat, by omega⟩
  exact turn_any x k (by omega) (by omega) w
theorem RefAt.add {q2 q3 q4 g off : Nat} {P : List UInt8} {w : World} {S : S8} {wr : World} (h : RefAt q2 q3 q4 g off P w S wr) (t : S8) (n2 : q2 ≠ q3) (n4 : q4 ≠ q3) (hg : g ≠ q3) (hw : w.heap.size ≤ q3) : RefAt q2 q3 q4 g off P w (addS S t) ((((((((wr.setCell ⟨q3, 0, none⟩ (.int .u32 (addW S.a t.a).toNat)).setCell ⟨q3, 1, none⟩ (.int .u32 (addW S.b t.b).toNat)).setCell ⟨q3, 2, none⟩ (.int .u32 (addW S.c t.c).toNat)).setCell ⟨q3, 3, none⟩ (.int .u32 (addW S.d t.d).toNat)).setCell ⟨q3, 4, none⟩ (.int .u32 (addW S.e t.e).toNat)).setCell ⟨q3, 5, none⟩ (.int .u32 (addW S.f t.f).toNat)).setCell ⟨q3, 6, none⟩ (.int .u32 (addW S.g t.g).toNat)).setCell ⟨q3, 7, none⟩ (.int .u32 (addW S.h t.h).toNat)) := by
  have h0 := h.st
  have h1 := heap_set h0 0 (.int .u32 (addW S.a t.a).toNat)
  have h2 := heap_set h1 1 (.int .u32 (addW S.b t.b).toNat)
  have h3 := heap_set h2 2 (.int .u32 (addW S.c t.c).toNat)
  have h4 := heap_set h3 3 (.int .u32 (addW S.d t.d).toNat)
  have h5 := heap_set h4 4 (.int .u32 (addW S.e t.e).toNat)
  have h6 := heap_set h5 5 (.int .u32 (addW S.f t.f).toNat)
  have h7 := heap_set h6 6 (.int .u32 (addW S.g t.g).toNat)
  have h8 := heap_set h7 7 (.int .u32 (addW S.h t.h).toNat)
  have hsp := (spares_set (g := q3) (spares_set (g := q3) (spares_set (g := q3) (spares_set (g := q3) (spares_set (g := q3) (spares_set (g := q3) (spares_set (g := q3) (spares_set (g := q3) (Spares.refl (fun b => b = q3) wr) 0 (.int .u32 (addW S.a t.a).toNat)) 1 (.int .u32 (addW S.b t.b).toNat)) 2 (.int .u32 (addW S.c t.c).toNat)) 3 (.int .u32 (addW S.d t.d).toNat)) 4 (.int .u32 (addW S.e t.e).toNat)) 5 (.int .u32 (addW S.f t.f).toNat)) 6 (.int .u32 (addW S.g t.g).toNat)) 7 (.int .u32 (addW S.h t.h).toNat))
  have e : ∀ (x0 x1 x2 x3 x4 x5 x6 x7 y0 y1 y2 y3 y4 y5 y6 y7 : Value), ((((((((#[x0, x1, x2, x3, x4, x5, x6, x7] : Array Value).setIfInBounds 0 y0).setIfInBounds 1 y1).setIfInBounds 2 y2).setIfInBounds 3 y3).setIfInBounds 4 y4).setIfInBounds 5 y5).setIfInBounds 6 y6).setIfInBounds 7 y7 = #[y0, y1, y2, y3, y4, y5, y6, y7] := by
    intros; simp
  have e2 := e (v32 S.a) (v32 S.b) (v32 S.c) (v32 S.d) (v32 S.e) (v32 S.f) (v32 S.g) (v32 S.h) (v32 (addW S.a t.a)) (v32 (addW S.b t.b)) (v32 (addW S.c t.c)) (v32 (addW S.d t.d)) (v32 (addW S.e t.e)) (v32 (addW S.f t.f)) (v32 (addW S.g t.g)) (v32 (addW S.h t.h))
  refine ⟨h8.trans (congrArg (fun r => some (Obj.cells r 108 (0, 0))) e2), hsp.heap h.tb n4, hsp.heap h.key n2, h.pad.spares hsp (fun b o he => by cases he; exact hg), h.sp.trans' hsp (fun b hb => .inr (by subst hb; exact hw))⟩
end Go.Proofs.YtgfinhkplijhbaaGreatDoor
namespace Go.Proofs.YtgfinhkplijhbaaGreatDoor
open Go.RowKit

set_option maxRecDepth 100000 in
set_option maxHeartbeats 20000000 in
theorem refSum_any (a : Option Addr) (n c : Nat) (l : List UInt8) (w : World) (hl : BytesAt w a l) (hn : n = l.length) (hmax : n ≤ 70368744177664) (hnil : a = none → c = 0) :
    Calls Tryz.prog 68 #[.slice a n c] w fun e w' => e = .returned (.agg (bytesV (shaF l))) ∧ Spares nowhere w w' := by
  have HN := Lib.hid hn
  have HL := Lib.hid hl
  have HNIL := Lib.hid hnil
  have hs2 : Spares nowhere w (w.alloc (.cells (bytesV (List.replicate 32 0)) 40)) := (Spares.refl _ _).alloc _
  have hq2 := heap_alloc_new w (.cells (bytesV (List.replicate 32 0)) 40)
  have hs3 := hs2.alloc (.cells firstV 108)
  have hq3 := ((Spares.refl nowhere (w.alloc (.cells (bytesV (List.replicate 32 0)) 40))).alloc (.cells firstV 108)).heap hq2 (fun h => h)
  have hst3 := heap_alloc_new (w.alloc (.cells (bytesV (List.replicate 32 0)) 40)) (.cells firstV 108)
  rw [show (w.alloc (.cells (bytesV (List.replicate 32 0)) 40)).heap.size = w.heap.size + 1 by simp] at hst3
  have HT := Lib.hid (table_any ((w.alloc (.cells (bytesV (List.replicate 32 0)) 40)).alloc (.cells firstV 108)))
  have HS3 := Lib.hid hs3
  have HQ3 := Lib.hid hq3
  have HST3 := Lib.hid hst3
  clear hl hn hnil hs2 hq2 hs3 hq3 hst3
  go_enter Tryz.func68, Tryz.ntmps68
  go_wp2_with fail
  refine HT.out.mono ?_
  rintro e w4 ⟨rfl, hs4⟩
  obtain ⟨q2, hq2⟩ : ∃ q, w.heap.size = q := ⟨_, rfl⟩
  obtain ⟨q3, hq3⟩ : ∃ q, w.heap.size + 1 = q := ⟨_, rfl⟩
  obtain ⟨q4, hq4⟩ : ∃ q, w4.heap.size = q := ⟨_, rfl⟩
  rw [hq3]
  rw [hq2]
  have hst4 := hs4.heap HST3.out (fun h => h)
  have hqq4 := hs4.heap HQ3.out (fun h => h)
  have hss4 := HS3.out.trans hs4
  have h34 : q3 < q4 := by rw [← hq4, ← hq3]; exact (Array.getElem?_eq_some_iff.1 hst4).1
  have HORD := Lib.hid (show w.heap.size = q2 ∧ q2 + 1 = q3 ∧ q3 < q4 from ⟨hq2, by omega, h34⟩)
  rw [hq3] at hst4
  rw [hq2] at hqq4
  have hal := heap_alloc_new w4 (.cells (rowW []) 109)
  rw [hq4] at hal
  have hth : (w4.alloc (.cells (rowW []) 109)).there q4 0 roundV.size := there_of hal 0 64 (by rw [rowW_size _ (by simp)]; exact Nat.le_refl _)
  have hsp5 : Spares nowhere w4 ((w4.alloc (.cells (rowW []) 109)).setCells q4 0 roundV.toList) := ((Spares.refl nowhere w4).alloc (.cells (rowW []) 109)).trans' (spares_setCells (g := q4) _ _ _ (Spares.refl _ _)) (fun b hb => .inr (by omega))
  have htb : ((w4.alloc (.cells (rowW []) 109)).setCells q4 0 roundV.toList).heap[q4]? = some (.cells roundV 109 (0, 0)) := by
    have := heap_setCells (g := q4) (t := 109) roundV.toList [] (rowW []).toList [] (w4.alloc (.cells (rowW []) 109)) (by rw [List.append_nil]; exact hal) (by kernel_rfl)
    rw [List.append_nil] at this
    exact this
  have HST5 := Lib.hid (hsp5.heap hst4 (fun h => h))
  have HQ5 := Lib.hid (hsp5.heap hqq4 (fun h => h))
  have HS5 := Lib.hid (hss4.trans hsp5)
  have HTB5 := Lib.hid htb
  have HTH := Lib.hid hth
  have HP := Lib.hid (pad_any a n c l _ (HL.out.spares HS5.out (fun _ _ _ h => h)) HN.out hmax HNIL.out)
  clear hs4 hq2 hq3 h34 hst4 hqq4 hss4 hal hth hsp5 htb HT HS3 HQ3 HST3
  go_wp2_with ((with_reducible show wpList _ _ _ (⟨none, .store 109 _ _, _, _, _, _⟩ :: _) _ _); refine wpList_store_mid rfl 109 (.tmp 4) (.tmp 26) rfl q4 0 roundV rfl rfl HTH.out (by kernel_rfl) roundV_one ?_)
  refine HP.out.mono ?_
  rintro e w6 ⟨v5, rfl, hr6, hs6⟩
  obtain ⟨P, hP⟩ : ∃ P, padS l = P := ⟨_, rfl⟩
  have hpl := padS_len l
  rw [hP] at hr6 hpl
  have hP3 : P.length ≤ 140737488355328 := by have := HN.out; omega
  obtain ⟨N, hN⟩ : ∃ N, P.length = N := ⟨_, rfl⟩
  have hg5 : q4 < ((w4.alloc (.cells (rowW []) 109)).setCells q4 0 roundV.toList).heap.size := (Array.getElem?_eq_some_iff.1 HTB5.out).1
  obtain ⟨a5, c5, rfl, hat, _, hc5⟩ := hr6.shape
  obtain ⟨g, off, rfl, _⟩ := hat 0 (by omega)
  have hgq : q4 < g := Nat.lt_of_lt_of_le hg5 (hr6.lt g rfl).1
  have HRF : Hid (RefAt q2 q3 q4 g off P w (takeS 0 startS P) w6) := Lib.hid ⟨by rw [takeS, start_row]; exact hs6.heap HST5.out (fun h => h), hs6.heap HTB5.out (fun h => h), hs6.heap HQ5.out (fun h => h), hat, HS5.out.trans hs6⟩
  have HPP := Lib.hid hP
  have HGQ := Lib.hid hgq
  rw [hN] at hpl hP3 hc5
  rw [hN]
  have HNN := Lib.hid hN
  have HPL := Lib.hid hpl
  clear hP hpl hg5 hat hgq hr6 hs6 HTB5 HST5 HQ5 HS5 HTH HP hN hq4
  go_wp2
  go_loopw [6] (fun i wr => ∃ m : Nat, 64 * m ≤ N ∧ i = .int .i64 ((64 * m : Nat) : Int) ∧ Hid (RefAt q2 q3 q4 g off P w (takeS m startS P) wr)) (fun i _ => N - (intOf i).toNat)
  case atStart => exact ⟨0, by omega, rfl, HRF⟩
  clear HRF
  case round =>
    obtain ⟨m, hm, rfl, HRF⟩ := hrel
    obtain ⟨A, hA⟩ : ∃ A, 64 * m = A := ⟨_, rfl⟩
    rw [hA] at hm
    rw [hA]
    by_cases hlt : A < N
    · have i1 : (A : Int) < (N : Int) := by omega
      have hAN : A + 64 ≤ N := by have := HPL.out.1; omega
      obtain ⟨S, hS⟩ : ∃ S, takeS m startS P = S := ⟨_, rfl⟩
      rw [hS] at HRF
      obtain ⟨B, hB⟩ : ∃ B, P.drop A = B := ⟨_, rfl⟩
      have HSS := Lib.hid hS
      have HB := Lib.hid hB
      have HAM := Lib.hid hA
      obtain ⟨q7, hq7⟩ : ∃ q, wr.heap.size = q := ⟨_, rfl⟩
      have hal := heap_alloc_new wr (.cells (rowW []) 109)
      rw [hq7] at hal
      have HRF7 : Hid (RefAt q2 q3 q4 g off P w S (wr.alloc (.cells (rowW []) 109))) := Lib.hid (HRF.out.keep ((Spares.refl nowhere wr).alloc _) (fun h => h) (fun h => h) (fun h => h) (fun h => h) (fun b h => by cases h))
      have HROW : Hid ((wr.alloc (.cells (rowW []) 109)).heap[q7]? = some (.cells (rowW (wordsOf 0 B)) 109 (0, 0))) := Lib.hid hal
      have h7 : q3 < q7 ∧ g < q7 ∧ q4 < q7 ∧ q2 < q7 ∧ w.heap.size ≤ q7 := by
        rw [← hq7]
        refine ⟨(Array.getElem?_eq_some_iff.1 HRF.out.st).1, ?_, (Array.getElem?_eq_some_iff.1 HRF.out.tb).1, (Array.getElem?_eq_some_iff.1 HRF.out.key).1, HRF.out.sp.size⟩
        obtain ⟨b', off', he', hc⟩ := HRF.out.pad 0 (by have := HNN.out; omega)
        cases he'
        rcases Nat.lt_or_ge g wr.heap.size with h | h
        · exact h
        · simp [World.cell?, Array.getElem?_eq_none h] at hc
      have H7 := Lib.hid h7
      clear hS hB hA hal h7
      go_wp2
      go_loopw [8] (fun i wr => ∃ k : Nat, k ≤ 16 ∧ i = .int .i64 k ∧ Hid (wr.heap[q7]? = some (.cells (rowW (wordsOf k B)) 109 (0, 0))) ∧ Hid (RefAt q2 q3 q4 g off P w S wr)) (fun i _ => 16 - (intOf i).toNat)
      case atStart => exact ⟨0, by omega, rfl, HROW, HRF7⟩
      clear HROW HRF7 HRF
      case round =>
        obtain ⟨k, hk, rfl, HROW, HRF⟩ := hrel
        by_cases hlt2 : k < 16
        · --L2
          obtain ⟨t, ht⟩ : ∃ t, 4 * k = t := ⟨_, rfl⟩
          obtain ⟨i0, hi0⟩ : ∃ i, A + t = i := ⟨_, rfl⟩
          obtain ⟨i1', hi1⟩ : ∃ i, i0 + 1 = i := ⟨_, rfl⟩
          obtain ⟨i2', hi2⟩ : ∃ i, i0 + 2 = i := ⟨_, rfl⟩
          obtain ⟨i3', hi3⟩ : ∃ i, i0 + 3 = i := ⟨_, rfl⟩
          have hti : (4 : Int) * (k : Int) = (t : Int) := by omega
          have h0i : (A : Int) + (t : Int) = (i0 : Int) := by omega
          have h1i : (i0 : Int) + 1 = (i1' : Int) := by omega
          have h2i : (i0 : Int) + 2 = (i2' : Int) := by omega
          have h3i : (i0 : Int) + 3 = (i3' : Int) := by omega
          have hb3 : i3' < N := by omega
          have b0 : (i0 : Int) < (N : Int) := by omega
          have b1 : (i1' : Int) < (N : Int) := by omega
          have b2 : (i2' : Int) < (N : Int) := by omega
          have b3 : (i3' : Int) < (N : Int) := by omega
          have bk : (k : Int) < 64 := by omega
          obtain ⟨x0, hx0⟩ : ∃ x, P.getD i0 0 = x := ⟨_, rfl⟩
          obtain ⟨x1, hx1⟩ : ∃ x, P.getD i1' 0 = x := ⟨_, rfl⟩
          obtain ⟨x2, hx2⟩ : ∃ x, P.getD i2' 0 = x := ⟨_, rfl⟩
          obtain ⟨x3, hx3⟩ : ∃ x, P.getD i3' 0 = x := ⟨_, rfl⟩
          have hPN := HNN.out
          have c0 : wr.cell? ⟨g, off + i0, none⟩ = some (.int .u8 x0.toNat) := by rw [← hx0]; exact byte_cell HRF.out.pad i0 (by omega)
          have c1 : wr.cell? ⟨g, off + i1', none⟩ = some (.int .u8 x1.toNat) := by rw [← hx1]; exact byte_cell HRF.out.pad i1' (by omega)
          have c2 : wr.cell? ⟨g, off + i2', none⟩ = some (.int .u8 x2.toNat) := by rw [← hx2]; exact byte_cell HRF.out.pad i2' (by omega)
          have c3 : wr.cell? ⟨g, off + i3', none⟩ = some (.int .u8 x3.toNat) := by rw [← hx3]; exact byte_cell HRF.out.pad i3' (by omega)
          have hfz : wr.frozen? ⟨q7, k, none⟩ = false := heap_frozen HROW.out k
          have hcl : wr.cell? ⟨q7, k, none⟩ = some (.int .u32 0) := by
            rw [Lib.cell_of_heap HROW.out]
            exact rowW_zero _ _ (by rw [wordsOf_len]; omega) (by omega)
          have HWD : Hid (beW x0 x1 x2 x3 = wordAt B k) := Lib.hid (by
            unfold wordAt
            rw [← HB.out, getD_drop, getD_drop, getD_drop, getD_drop, ← hx0, ← hx1, ← hx2, ← hx3, ← hi1, ← hi2, ← hi3, ← hi0, ← ht]
            simp only [Nat.add_assoc])
          have fbe := beW_int
          have l0 := x0.toNat_lt
          have l1 := x1.toNat_lt
          have l2 := x2.toNat_lt
          have l3 := x3.toNat_lt
          clear hx0 hx1 hx2 hx3 hPN ht hi0 hi1 hi2 hi3 hb3
          go_upto_region 11 with (fail)
          refine wp_region_quiet_tail 43 (by kernel_rfl) (by kernel_rfl) ?_
          simp only [List.take_succ_cons, List.take_zero, List.drop_succ_cons, List.drop_zero]
          repeat (go_big_quiet_step (fail))
          refine wpQuiet_nil ?_
          rintro w9 ⟨nq, rfl⟩

          go_wp2
          go_roundw
          case rel =>
            refine ⟨k + 1, by omega, by go_num, Lib.hid ?_, Lib.hid ?_⟩
            · refine (heap_set (w := wr.drewN nq) HROW.out k _).trans ?_
              rw [wordsOf_succ, ← HWD.out]
              have := rowW_set (wordsOf k B) (beW x0 x1 x2 x3) (by rw [wordsOf_len]; omega)
              rw [wordsOf_len] at this
              exact congrArg (fun r => some (Obj.cells r 109 (0, 0))) this
            · exact HRF.out.keep (F := fun b => b = q7) (spares_set (g := q7) ((Spares.refl (fun b => b = q7) wr).drewN nq) k _) (fun h => by have := H7.out; omega) (fun h => by have := H7.out; omega) (fun h => by have := H7.out; omega) (fun h => by have := H7.out; omega) (fun b h => by have := H7.out; omega)
          case measure => simp [intOf]; omega
        · obtain rfl : k = 16 := by omega
          have HROW0 := Lib.hid HROW.out
          rw [show ((16 : Nat) : Int) = 16 from rfl]
          clear HROW hk hlt2
          go_wp2
          go_loopw [9] (fun i wr => ∃ k : Nat, k ≤ 48 ∧ i = .int .i64 ((k + 16 : Nat) : Int) ∧ Hid (wr.heap[q7]? = some (.cells (rowW (moreW k (wordsOf 16 B))) 109 (0, 0))) ∧ Hid (RefAt q2 q3 q4 g off P w S wr)) (fun i _ => 64 - (intOf i).toNat)
          case atStart => exact ⟨0, by omega, rfl, HROW0, HRF⟩
          clear HROW0 HRF
          case round =>
            obtain ⟨k, hk, rfl, HROW, HRF⟩ := hrel
            by_cases hlt2 : k < 48
            · --L3
              have fx := xorW_int
              have fa := addW_wrap
              have fa2 := addW_int
              have fs3 : ∀ x : UInt32, (x.toNat : Int) / 8 = ((shrW x 3).toNat : Int) := fun x => shrW_int x 3
              have fs10 : ∀ x : UInt32, (x.toNat : Int) / 1024 = ((shrW x 10).toNat : Int) := fun x => shrW_int x 10
              obtain ⟨R, hR⟩ : ∃ R, moreW k (wordsOf 16 B) = R := ⟨_, rfl⟩
              have hlen : R.length = k + 16 := by rw [← hR, moreW_len, wordsOf_len]; omega
              rw [hR] at HROW
              have HRR := Lib.hid hR
              obtain ⟨j, hj⟩ : ∃ j, k + 16 = j := ⟨_, rfl⟩
              rw [hj] at hlen
              obtain ⟨x0, hx0⟩ : ∃ x, R.getD k 0 = x := ⟨_, rfl⟩
              obtain ⟨x1, hx1⟩ : ∃ x, R.getD (k + 1) 0 = x := ⟨_, rfl⟩
              obtain ⟨x9, hx9⟩ : ∃ x, R.getD (k + 9) 0 = x := ⟨_, rfl⟩
              obtain ⟨x14, hx14⟩ : ∃ x, R.getD (k + 14) 0 = x := ⟨_, rfl⟩
              have c0 : wr.cell? ⟨q7, k, none⟩ = some (.int .u32 x0.toNat) := by rw [Lib.cell_of_heap HROW.out, rowW_get R k (by omega), hx0]
              have c1 : wr.cell? ⟨q7, k + 1, none⟩ = some (.int .u32 x1.toNat) := by rw [Lib.cell_of_heap HROW.out, rowW_get R _ (by omega), hx1]
              have c9 : wr.cell? ⟨q7, k + 9, none⟩ = some (.int .u32 x9.toNat) := by rw [Lib.cell_of_heap HROW.out, rowW_get R _ (by omega), hx9]
              have c14 : wr.cell? ⟨q7, k + 14, none⟩ = some (.int .u32 x14.toNat) := by rw [Lib.cell_of_heap HROW.out, rowW_get R _ (by omega), hx14]
              have cj : wr.cell? ⟨q7, j, none⟩ = some (.int .u32 0) := by
                rw [Lib.cell_of_heap HROW.out]
                exact rowW_zero _ _ (by omega) (by omega)
              have hfz : wr.frozen? ⟨q7, j, none⟩ = false := heap_frozen HROW.out j
              have hnext : nextW R = addW (addW (addW x0 (smallS x1)) x9) (greatS x14) := by
                unfold nextW
                rw [show R.length - 16 = k by omega, show R.length - 15 = k + 1 by omega, show R.length - 7 = k + 9 by omega, show R.length - 2 = k + 14 by omega, hx0, hx1, hx9, hx14]
              have HNX := Lib.hid hnext
              obtain ⟨j1, hj1⟩ : ∃ j, k + 1 = j := ⟨_, rfl⟩
              obtain ⟨j9, hj9⟩ : ∃ j, k + 9 = j := ⟨_, rfl⟩
              obtain ⟨j14, hj14⟩ : ∃ j, k + 14 = j := ⟨_, rfl⟩
              rw [hj1] at c1
              rw [hj9] at c9
              rw [hj14] at c14
              have g15 : (j : Int) - 15 = (j1 : Int) := by omega
              have g2 : (j : Int) - 2 = (j14 : Int) := by omega
              have g16 : (j : Int) - 16 = (k : Int) := by omega
              have g7 : (j : Int) - 7 = (j9 : Int) := by omega
              have b1 : (j1 : Int) < 64 := by omega
              have b14 : (j14 : Int) < 64 := by omega
              have b9 : (j9 : Int) < 64 := by omega
              have b0 : (k : Int) < 64 := by omega
              have bj : (j : Int) < 64 := by omega
              have HK := Lib.hid hj
              have HLEN := Lib.hid hlen
              rw [hj]
              clear hx0 hx1 hx9 hx14 hnext hR hj1 hj9 hj14 hlen
              go_upto_region 15 with (fail)
              go_quiet (fail)
              go_upto_region 16 with (fail)
              obtain ⟨w8, hw8⟩ : ∃ w8, wr.drewN nq = w8 := ⟨_, rfl⟩
              rw [hw8]
              have d0 : w8.cell? ⟨q7, k, none⟩ = some (.int .u32 x0.toNat) := by rw [← hw8]; exact c0
              have d9 : w8.cell? ⟨q7, j9, none⟩ = some (.int .u32 x9.toNat) := by rw [← hw8]; exact c9
              have dj : w8.cell? ⟨q7, j, none⟩ = some (.int .u32 0) := by rw [← hw8]; exact cj
              have dfz : w8.frozen? ⟨q7, j, none⟩ = false := by rw [← hw8]; exact hfz
              have HROW8 : Hid (w8.heap[q7]? = some (.cells (rowW R) 109 (0, 0))) := Lib.hid (by rw [← hw8]; exact HROW.out)
              have HRF8 : Hid (RefAt q2 q3 q4 g off P w S w8) := Lib.hid (by rw [← hw8]; exact HRF.out.keep (F := nowhere) ((Spares.refl _ wr).drewN nq) (fun h => h) (fun h => h) (fun h => h) (fun h => h) (fun b h => by cases h))
              clear c0 c1 c9 c14 cj hfz hw8 HROW HRF
              refine wp_region_quiet_tail 29 (by kernel_rfl) (by kernel_rfl) ?_
              simp only [List.take_succ_cons, List.take_zero, List.drop_succ_cons, List.drop_zero]
              repeat (go_big_quiet_step ((go_at_call 87; exact Calls.quiet_of (turn_int _ _ (by decide) (by decide) _))))
              refine wpQuiet_nil ?_
              rintro w9 ⟨nq, rfl⟩

              go_wp2
              go_roundw
              case rel =>
                refine ⟨k + 1, by omega, by rw [show ((k + 1 + 16 : Nat) : Int) = (j : Int) + 1 by have := HK.out; omega], Lib.hid ?_, Lib.hid ?_⟩
                · refine (heap_set (w := w8.drewN nq) HROW8.out j _).trans ?_
                  have hrow := rowW_set R (nextW R) (by have := HLEN.out; omega)
                  rw [HLEN.out, HNX.out] at hrow
                  rw [moreW_succ, HRR.out, HNX.out]
                  exact congrArg (fun r => some (Obj.cells r 109 (0, 0))) hrow
                · exact HRF8.out.keep (F := fun b => b = q7) (spares_set (g := q7) ((Spares.refl (fun b => b = q7) w8).drewN _) j _) (fun h => by have := H7.out; omega) (fun h => by have := H7.out; omega) (fun h => by have := H7.out; omega) (fun h => by have := H7.out; omega) (fun b h => by have := H7.out; omega)
              case measure => simp [intOf]; omega
            · obtain rfl : k = 48 := by omega
              obtain ⟨R, hR⟩ : ∃ R, moreW 48 (wordsOf 16 B) = R := ⟨_, rfl⟩
              have hlen : R.length = 64 := by rw [← hR, moreW_len, wordsOf_len]
              rw [hR] at HROW
              have HRR := Lib.hid hR
              have HLEN := Lib.hid hlen
              have s0 : wr.cell? ⟨q3, 0, none⟩ = some (.int .u32 S.a.toNat) := state_cell HRF.out.st 0 (by decide)
              have s1 : wr.cell? ⟨q3, 1, none⟩ = some (.int .u32 S.b.toNat) := state_cell HRF.out.st 1 (by decide)
              have s2 : wr.cell? ⟨q3, 2, none⟩ = some (.int .u32 S.c.toNat) := state_cell HRF.out.st 2 (by decide)
              have s3 : wr.cell? ⟨q3, 3, none⟩ = some (.int .u32 S.d.toNat) := state_cell HRF.out.st 3 (by decide)
              have s4 : wr.cell? ⟨q3, 4, none⟩ = some (.int .u32 S.e.toNat) := state_cell HRF.out.st 4 (by decide)
              have s5 : wr.cell? ⟨q3, 5, none⟩ = some (.int .u32 S.f.toNat) := state_cell HRF.out.st 5 (by decide)
              have s6 : wr.cell? ⟨q3, 6, none⟩ = some (.int .u32 S.g.toNat) := state_cell HRF.out.st 6 (by decide)
              have s7 : wr.cell? ⟨q3, 7, none⟩ = some (.int .u32 S.h.toNat) := state_cell HRF.out.st 7 (by decide)
              rw [show ((48 + 16 : Nat) : Int) = 64 from rfl]
              clear hR hlen hk hlt2
              go_upto_region 17 with (fail)
              go_quiet (fail)
              obtain ⟨w8, hw8⟩ : ∃ w8, wr.drewN nq = w8 := ⟨_, rfl⟩
              rw [hw8]
              have HROW8 : Hid (w8.heap[q7]? = some (.cells (rowW R) 109 (0, 0))) := Lib.hid (by rw [← hw8]; exact HROW.out)
              have HRF8 : Hid (RefAt q2 q3 q4 g off P w S w8) := Lib.hid (by rw [← hw8]; exact HRF.out.keep (F := nowhere) ((Spares.refl _ wr).drewN nq) (fun h => h) (fun h => h) (fun h => h) (fun h => h) (fun b h => by cases h))
              clear s0 s1 s2 s3 s4 s5 s6 s7 hw8 HROW HRF
              go_wp2
              go_loopw [12, 13, 14, 15, 16, 17, 18, 19, 20] (fun va vb vc vd ve vf vg vh i wr => ∃ (k : Nat) (t : S8), k ≤ 64 ∧ i = .int .i64 k ∧ va = .int .u32 t.a.toNat ∧ vb = .int .u32 t.b.toNat ∧ vc = .int .u32 t.c.toNat ∧ vd = .int .u32 t.d.toNat ∧ ve = .int .u32 t.e.toNat ∧ vf = .int .u32 t.f.toNat ∧ vg = .int .u32 t.g.toNat ∧ vh = .int .u32 t.h.toNat ∧ Hid (runS R S k = t) ∧ Hid (wr.heap[q7]? = some (.cells (rowW R) 109 (0, 0))) ∧ Hid (RefAt q2 q3 q4 g off P w S wr)) (fun _ _ _ _ _ _ _ _ i _ => 64 - (intOf i).toNat)
              case atStart => exact ⟨0, S, by omega, rfl, rfl, rfl, rfl, rfl, rfl, rfl, rfl, rfl, Lib.hid rfl, HROW8, HRF8⟩
              clear HROW8 HRF8
              case round =>
                obtain ⟨k, t, hk, rfl, rfl, rfl, rfl, rfl, rfl, rfl, rfl, rfl, HR, HROW, HRF⟩ := hrel
                by_cases hlt2 : k < 64
                · --L4
                  have fx := xorW_int
                  have fa := addW_wrap
                  have fa2 := addW_int
                  have fb := andW_int
                  have fn := notW_walk
                  obtain ⟨kw, hkw⟩ : ∃ x, roundK.getD k 0 = x := ⟨_, rfl⟩
                  obtain ⟨xw, hxw⟩ : ∃ x, R.getD k 0 = x := ⟨_, rfl⟩
                  have cw : wr.cell? ⟨q7, k, none⟩ = some (.int .u32 xw.toNat) := by rw [Lib.cell_of_heap HROW.out, rowW_get R k (by have := HLEN.out; omega), hxw]
                  have ck : wr.cell? ⟨q4, k, none⟩ = some (.int .u32 kw.toNat) := by rw [← hkw]; exact table_cell HRF.out.tb k hlt2
                  have HKW := Lib.hid hkw
                  have HXW := Lib.hid hxw
                  clear hkw hxw
                  have bk : (k : Int) < 64 := by omega
                  have T2 : ∀ (x : UInt32) w, Calls Tryz.prog 87 #[.int .u32 x.toNat, .int .i64 2] w fun e w' => e = .returned (.int .u32 (rotW x 2).toNat) ∧ ∃ n, w' = w.drewN n := fun x w => turn_any x 2 (by decide) (by decide) w
                  have T13 : ∀ (x : UInt32) w, Calls Tryz.prog 87 #[.int .u32 x.toNat, .int .i64 13] w fun e w' => e = .returned (.int .u32 (rotW x 13).toNat) ∧ ∃ n, w' = w.drewN n := fun x w => turn_any x 13 (by decide) (by decide) w
                  have T22 : ∀ (x : UInt32) w, Calls Tryz.prog 87 #[.int .u32 x.toNat, .int .i64 22] w fun e w' => e = .returned (.int .u32 (rotW x 22).toNat) ∧ ∃ n, w' = w.drewN n := fun x w => turn_any x 22 (by decide) (by decide) w
                  go_upto_region 21 with (fail)
                  go_quiet ((go_at_call 87; exact Calls.quiet_of (turn_int _ _ (by decide) (by decide) _)))
                  obtain ⟨w8, hw8⟩ : ∃ w8, wr.drewN nq = w8 := ⟨_, rfl⟩
                  rw [hw8]
                  have HROW8 : Hid (w8.heap[q7]? = some (.cells (rowW R) 109 (0, 0))) := Lib.hid (by rw [← hw8]; exact HROW.out)
                  have HRF8 : Hid (RefAt q2 q3 q4 g off P w S w8) := Lib.hid (by rw [← hw8]; exact HRF.out.keep (F := nowhere) ((Spares.refl _ wr).drewN nq) (fun h => h) (fun h => h) (fun h => h) (fun h => h) (fun b h => by cases h))
                  clear cw ck hw8 HROW HRF
                  go_wp2_with fail
                  refine (T2 _ _).mono ?_
                  rintro e w3 ⟨rfl, m1, rfl⟩
                  go_wp2_with fail
                  refine (T13 _ _).mono ?_
                  rintro e w3 ⟨rfl, m2, rfl⟩
                  go_wp2_with fail
                  refine (T22 _ _).mono ?_
                  rintro e w3 ⟨rfl, m3, rfl⟩
                  go_wp2
                  go_roundw
                  case rel =>
                    refine ⟨k + 1, stepS t kw xw, by omega, by go_num, ?_, rfl, rfl, rfl, rfl, rfl, rfl, rfl, Lib.hid (by rw [runS, HR.out, HKW.out, HXW.out]), Lib.hid HROW8.out, Lib.hid ?_⟩
                    · exact congrArg (fun x : UInt32 => Value.int .u32 (x.toNat : Int)) (addW_assoc _ _ _).symm
                    · exact HRF8.out.keep (F := nowhere) ((Spares.refl _ w8).drewN (m1 + m2 + m3)) (fun h => h) (fun h => h) (fun h => h) (fun h => h) (fun b h => by cases h)
                  case measure => simp [intOf]; omega
                · --L4exit
                  obtain rfl : k = 64 := by omega
                  have fa := addW_wrap
                  have fa2 := addW_int
                  have HT : Hid (addS S t = takeS (m + 1) startS P) := Lib.hid (by rw [takeS_snoc, HSS.out, mixS_take, HAM.out, HB.out, ← HR.out, runS_all R HLEN.out, mixS, HRR.out])
                  have HST := Lib.hid HRF.out.st
                  have s0 : wr.cell? ⟨q3, 0, none⟩ = some (.int .u32 S.a.toNat) := state_cell HRF.out.st 0 (by decide)
                  have z0 : wr.frozen? ⟨q3, 0, none⟩ = false := heap_frozen HRF.out.st 0
                  have s1 : wr.cell? ⟨q3, 1, none⟩ = some (.int .u32 S.b.toNat) := state_cell HRF.out.st 1 (by decide)
                  have z1 : wr.frozen? ⟨q3, 1, none⟩ = false := heap_frozen HRF.out.st 1
                  have s2 : wr.cell? ⟨q3, 2, none⟩ = some (.int .u32 S.c.toNat) := state_cell HRF.out.st 2 (by decide)
                  have z2 : wr.frozen? ⟨q3, 2, none⟩ = false := heap_frozen HRF.out.st 2
                  have s3 : wr.cell? ⟨q3, 3, none⟩ = some (.int .u32 S.d.toNat) := state_cell HRF.out.st 3 (by decide)
                  have z3 : wr.frozen? ⟨q3, 3, none⟩ = false := heap_frozen HRF.out.st 3
                  have s4 : wr.cell? ⟨q3, 4, none⟩ = some (.int .u32 S.e.toNat) := state_cell HRF.out.st 4 (by decide)
                  have z4 : wr.frozen? ⟨q3, 4, none⟩ = false := heap_frozen HRF.out.st 4
                  have s5 : wr.cell? ⟨q3, 5, none⟩ = some (.int .u32 S.f.toNat) := state_cell HRF.out.st 5 (by decide)
                  have z5 : wr.frozen? ⟨q3, 5, none⟩ = false := heap_frozen HRF.out.st 5
                  have s6 : wr.cell? ⟨q3, 6, none⟩ = some (.int .u32 S.g.toNat) := state_cell HRF.out.st 6 (by decide)
                  have z6 : wr.frozen? ⟨q3, 6, none⟩ = false := heap_frozen HRF.out.st 6
                  have s7 : wr.cell? ⟨q3, 7, none⟩ = some (.int .u32 S.h.toNat) := state_cell HRF.out.st 7 (by decide)
                  have z7 : wr.frozen? ⟨q3, 7, none⟩ = false := heap_frozen HRF.out.st 7
                  have hA64 : (A : Int) + 64 = ((64 * (m + 1) : Nat) : Int) := by have := HAM.out; omega
                  clear hk hlt2 HR HROW
                  go_wp2
                  go_roundw
                  case rel =>
                    refine ⟨m + 1, by have := HAM.out; omega, congrArg (Value.int .i64) (by omega), Lib.hid ?_⟩
                    rw [← HT.out]
                    have hd := HORD.out
                    have hgd := HGQ.out
                    exact HRF.out.add t (by omega) (by omega) (by omega) (by omega)
                  case measure => simp [intOf]; omega
    · --END
      obtain rfl : A = N := by omega
      obtain ⟨S, hS⟩ : ∃ S, takeS m startS P = S := ⟨_, rfl⟩
      rw [hS] at HRF
      have HO : Hid (outS S = shaF l) := Lib.hid (by
        unfold shaF
        rw [HPP.out, HNN.out, ← hA, Nat.mul_div_cancel_left _ (by omega), hS])
      obtain ⟨qk, hqk⟩ : ∃ q, wr.heap.size = q := ⟨_, rfl⟩
      have hal := heap_alloc_new wr (.cells (bytesV (List.replicate 32 0)) 40)
      rw [hqk] at hal
      have HRFK : Hid (RefAt q2 q3 q4 g off P w S (wr.alloc (.cells (bytesV (List.replicate 32 0)) 40))) := Lib.hid (HRF.out.keep ((Spares.refl nowhere wr).alloc _) (fun h => h) (fun h => h) (fun h => h) (fun h => h) (fun b h => by cases h))
      have hOl : (outS S).length = 32 := by rw [← outK_all, outK_len 8 (by omega)]
      have HKEY : Hid ((wr.alloc (.cells (bytesV (List.replicate 32 0)) 40)).heap[qk]? = some (.cells (bytesV ((outS S).take 0 ++ List.replicate (32 - 0) 0)) 40 (0, 0))) := Lib.hid (by rw [List.take_zero, List.nil_append]; exact hal)
      have h7 : q3 < qk ∧ g < qk ∧ q4 < qk ∧ q2 < qk ∧ w.heap.size ≤ qk := by
        rw [← hqk]
        refine ⟨(Array.getElem?_eq_some_iff.1 HRF.out.st).1, ?_, (Array.getElem?_eq_some_iff.1 HRF.out.tb).1, (Array.getElem?_eq_some_iff.1 HRF.out.key).1, HRF.out.sp.size⟩
        obtain ⟨b', off', he', hc⟩ := HRF.out.pad 0 (by have := HNN.out; have := HPL.out; omega)
        cases he'
        rcases Nat.lt_or_ge g wr.heap.size with h | h
        · exact h
        · simp [World.cell?, Array.getElem?_eq_none h] at hc
      have H7 := Lib.hid h7
      have HOL := Lib.hid hOl
      clear hS hal h7 hlt hm hOl HRF
      go_wp2
      go_loopw [24] (fun i wr => ∃ k : Nat, k ≤ 32 ∧ i = .int .i64 k ∧ Hid (wr.heap[qk]? = some (.cells (bytesV ((outS S).take k ++ List.replicate (32 - k) 0)) 40 (0, 0))) ∧ Hid (RefAt q2 q3 q4 g off P w S wr)) (fun i _ => 32 - (intOf i).toNat)
      case atStart => exact ⟨0, by omega, rfl, HKEY, HRFK⟩
      clear HKEY HRFK
      case round =>
        obtain ⟨k, hk, rfl, HKEY, HRF⟩ := hrel
        by_cases hlt : k < 32
        · obtain ⟨d, hd⟩ : ∃ d, k / 4 = d := ⟨_, rfl⟩
          obtain ⟨r, hr⟩ : ∃ r, k % 4 = r := ⟨_, rfl⟩
          obtain ⟨s8, hs8⟩ : ∃ s, 8 * r = s := ⟨_, rfl⟩
          obtain ⟨s, hs⟩ : ∃ s, 24 - s8 = s := ⟨_, rfl⟩
          have e1 : (k : Int) / 4 = (d : Int) := by omega
          have e2 : (k : Int) % 4 = (r : Int) := by omega
          have e3 : (8 : Int) * (r : Int) = (s8 : Int) := by omega
          have e4 : (24 : Int) - (s8 : Int) = (s : Int) := by omega
          have e5 : (k : Int).tdiv 4 = (d : Int) := by rw [Int.tdiv_eq_ediv_of_nonneg (by omega)]; exact e1
          have e6 : (k : Int).tmod 4 = (r : Int) := by rw [Int.tmod_eq_emod_of_nonneg (by omega)]; exact e2
          have b1 : (k : Int) < 32 := by omega
          have b2 : (d : Int) < 8 := by omega
          have b3 : (s : Int) ≤ 32 := by omega
          have b4 : (0 : Int) ≤ (s : Int) := by omega
          obtain ⟨x, hx⟩ : ∃ x, (wl S).getD d 0 = x := ⟨_, rfl⟩
          have c1 : wr.cell? ⟨q3, d, none⟩ = some (.int .u32 x.toNat) := by rw [← hx]; exact state_cell HRF.out.st d (by omega)
          obtain ⟨y, hy⟩ : ∃ y, byW x r = y := ⟨_, rfl⟩
          have e7 : ((x.toNat : Int) / 2 ^ s) % 256 = (y.toNat : Int) := by rw [← hy]; exact byte_of x r s (by omega)
          have e8 : IntKind.u8.wrap ((x.toNat : Int) / 2 ^ s) = (y.toNat : Int) := by rw [← e7, IntKind.wrap_u8]
          have HY : Hid ((outS S).take (k + 1) = (outS S).take k ++ [y]) := Lib.hid (by rw [← hy, ← hx, ← hd, ← hr]; exact outS_take S k hlt)
          have c2 : wr.cell? ⟨qk, k, none⟩ = some (.int .u8 0) := by
            rw [Lib.cell_of_heap HKEY.out, bytesV_get _ _ (by rw [List.length_append, List.length_take, List.length_replicate, HOL.out]; omega), List.getD_eq_getElem?_getD, List.getElem?_append_right (by rw [List.length_take]; omega), List.getElem?_replicate, if_pos (by rw [List.length_take, HOL.out]; omega)]
            rfl
          have hfz : wr.frozen? ⟨qk, k, none⟩ = false := heap_frozen HKEY.out k
          clear hd hr hs8 hs hx hy
          go_wp2
          go_roundw
          case rel =>
            refine ⟨k + 1, by omega, by go_num, Lib.hid ?_, Lib.hid ?_⟩
            · refine (heap_set HKEY.out k _).trans ?_
              have hb := bytesV_set ((outS S).take k) (List.replicate (32 - (k + 1)) 0) 0 y
              have hlk : ((outS S).take k).length = k := by rw [List.length_take, HOL.out]; omega
              rw [hlk] at hb
              rw [HY.out, List.append_assoc, show 32 - k = (32 - (k + 1)) + 1 by omega, List.replicate_succ]
              exact congrArg (fun r => some (Obj.cells r 40 (0, 0))) hb
            · exact HRF.out.keep (F := fun b => b = qk) (spares_set (g := qk) (Spares.refl (fun b => b = qk) wr) k _) (fun h => by have := H7.out; omega) (fun h => by have := H7.out; omega) (fun h => by have := H7.out; omega) (fun h => by have := H7.out; omega) (fun b h => by have := H7.out; omega)
          case measure => simp [intOf]; omega
        · obtain rfl : k = 32 := by omega
          have hkk : wr.heap[qk]? = some (.cells (bytesV (outS S)) 40 (0, 0)) := by
            have := HKEY.out
            rw [List.take_of_length_le (by rw [HOL.out]; omega), show 32 - 32 = 0 from rfl, List.replicate_zero, List.append_nil] at this
            exact this
          have hrk : wr.rangeAt qk 0 (Lib.byteCells (outS S)) := range_of hkk 0 _ (fun j v hj => by rw [Nat.zero_add, bytesV, List.getElem?_toArray]; exact hj)
          have htq : wr.there q2 0 (bytesV (outS S)).size := there_of HRF.out.key 0 _ (by rw [bytesV_size, bytesV_size, HOL.out]; simp)
          have hgq : (wr.setCells q2 0 (Lib.byteCells (outS S))).heap[q2]? = some (.cells (bytesV (outS S)) 40 (0, 0)) := by
            have := heap_setCells (g := q2) (t := 40) (Lib.byteCells (outS S)) [] (Lib.byteCells (List.replicate 32 0)) [] wr (by rw [List.append_nil]; exact HRF.out.key) (by rw [byteCells_len, byteCells_len, HOL.out]; simp)
            rw [List.append_nil] at this
            exact this
          have HRK := Lib.hid hrk
          have HTQ := Lib.hid htq
          have HGK := Lib.hid hgq
          have HSP := Lib.hid HRF.out.sp
          have i1 : (Tryz.prog.info? 40).map (·.size) = some (Lib.byteCells (outS S)).length := by rw [byteCells_len, HOL.out]; kernel_rfl
          have i2 : (Tryz.prog.info? 40).map (·.size) = some (bytesV (outS S)).size := by rw [bytesV_size, HOL.out]; kernel_rfl
          have HI1 := Lib.hid i1
          have HI2 := Lib.hid i2
          clear hkk hrk htq hgq i1 i2 hk hlt HKEY HRF
          go_wp2_with (first
            | ((with_reducible show wpList _ _ _ (⟨some 258, _, _, _, _, _⟩ :: _) _ _); refine wpList_load_mid rfl 40 (.tmp 23) rfl qk 0 rfl (Lib.byteCells (outS S)) _ HRK.out Tryz.underlying40 rfl HI1.out ?_)
            | ((with_reducible show wpList _ _ _ (⟨none, .store 40 _ _, _, _, _, _⟩ :: _) _ _); refine wpList_store_mid rfl 40 (.tmp 2) (.tmp 258) rfl q2 0 (bytesV (outS S)) rfl rfl HTQ.out HI2.out (bytesV_one _) ?_))
          rw [← HO.out]
          exact bodyPost_ret (v := .agg (bytesV (outS S))) (results_cell_row rfl _ _ q2 40 (bytesV (outS S)) (0, 0) _ rfl HGK.out Tryz.underlying40 (by rfl) HI2.out) rfl ⟨rfl, HSP.out.trans' (F' := fun b => b = q2) (spares_setCells _ _ _ (Spares.refl _ _)) (fun b hb => .inr (by have := HORD.out; omega))⟩
end Go.Proofs.YtgfinhkplijhbaaGreatDoor
