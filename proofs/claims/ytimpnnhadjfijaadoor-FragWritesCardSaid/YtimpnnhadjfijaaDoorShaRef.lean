/-
  The reference's Sum is the same sum.
-/
import Derived.Test.YtimpnnhadjfijaaDoorShaRefParts
import Derived.Deep.WholeRow
namespace Go.Proofs.YtimpnnhadjfijaaDoor
open Go.RowKit

set_option maxRecDepth 100000 in
set_option maxHeartbeats 20000000 in
theorem refSum_any (a : Option Addr) (n c : Nat) (l : List UInt8) (w : World) (hl : BytesAt w a l) (hn : n = l.length) (hmax : n ≤ 70368744177664) (hnil : a = none → c = 0) :
    Calls Tryd.prog 28 #[.slice a n c] w fun e w' => e = .returned (.agg (bytesV (shaF l))) ∧ Spares nowhere w w' := by
  have HN := Lib.hid hn
  have HL := Lib.hid hl
  have HNIL := Lib.hid hnil
  have hs2 : Spares nowhere w (w.alloc (.cells (bytesV (List.replicate 32 0)) 22)) := (Spares.refl _ _).alloc _
  have hq2 := heap_alloc_new w (.cells (bytesV (List.replicate 32 0)) 22)
  have hs3 := hs2.alloc (.cells firstV 79)
  have hq3 := ((Spares.refl nowhere (w.alloc (.cells (bytesV (List.replicate 32 0)) 22))).alloc (.cells firstV 79)).heap hq2 (fun h => h)
  have hst3 := heap_alloc_new (w.alloc (.cells (bytesV (List.replicate 32 0)) 22)) (.cells firstV 79)
  rw [show (w.alloc (.cells (bytesV (List.replicate 32 0)) 22)).heap.size = w.heap.size + 1 by simp] at hst3
  have HT := Lib.hid (table_any ((w.alloc (.cells (bytesV (List.replicate 32 0)) 22)).alloc (.cells firstV 79)))
  have HS3 := Lib.hid hs3
  have HQ3 := Lib.hid hq3
  have HST3 := Lib.hid hst3
  clear hl hn hnil hs2 hq2 hs3 hq3 hst3
  go_enter Tryd.func28, Tryd.ntmps28
  go_wp2_with fail
  refine HT.out.mono ?_
  rintro e w4 ⟨rfl, hs4⟩
  obtain ⟨q2, hq2⟩ : ∃ q, w.heap.size = q := ⟨_, rfl⟩
  obtain ⟨q3, hq3⟩ : ∃ q, w.heap.size + 1 = q := ⟨_, rfl⟩
  obtain ⟨q4, hq4⟩ : ∃ q, w4.heap.size = q := ⟨_, rfl⟩
  rw [hq3]
  rw [hq2]
  have hst4 := hs4.heap HST3.out (fun h => h)
  have hqq4 := hs4.heap HQ3.out (fun h => h)
  have hss4 := HS3.out.trans hs4
  have h34 : q3 < q4 := by rw [← hq4, ← hq3]; exact (Array.getElem?_eq_some_iff.1 hst4).1
  have HORD := Lib.hid (show w.heap.size = q2 ∧ q2 + 1 = q3 ∧ q3 < q4 from ⟨hq2, by omega, h34⟩)
  rw [hq3] at hst4
  rw [hq2] at hqq4
  have hal := heap_alloc_new w4 (.cells (rowW []) 80)
  rw [hq4] at hal
  have hth : (w4.alloc (.cells (rowW []) 80)).there q4 0 roundV.size := there_of hal 0 64 (by rw [rowW_size _ (by simp)]; exact Nat.le_refl _)
  have hsp5 : Spares nowhere w4 ((w4.alloc (.cells (rowW []) 80)).setCells q4 0 roundV.toList) := ((Spares.refl nowhere w4).alloc (.cells (rowW []) 80)).trans' (spares_setCells (g := q4) _ _ _ (Spares.refl _ _)) (fun b hb => .inr (by omega))
  have htb : ((w4.alloc (.cells (rowW []) 80)).setCells q4 0 roundV.toList).heap[q4]? = some (.cells roundV 80 (0, 0)) := by
    have := heap_setCells (g := q4) (t := 80) roundV.toList [] (rowW []).toList [] (w4.alloc (.cells (rowW []) 80)) (by rw [List.append_nil]; exact hal) (by kernel_rfl)
    rw [List.append_nil] at this
    exact this
  have HST5 := Lib.hid (hsp5.heap hst4 (fun h => h))
  have HQ5 := Lib.hid (hsp5.heap hqq4 (fun h => h))
  have HS5 := Lib.hid (hss4.trans hsp5)
  have HTB5 := Lib.hid htb
  have HTH := Lib.hid hth
  have HP := Lib.hid (pad_any a n c l _ (HL.out.spares HS5.out (fun _ _ _ h => h)) HN.out hmax HNIL.out)
  clear hs4 hq2 hq3 h34 hst4 hqq4 hss4 hal hth hsp5 htb HT HS3 HQ3 HST3
  go_wp2_with ((with_reducible show wpList _ _ _ (⟨none, .store 80 _ _, _, _, _, _⟩ :: _) _ _); refine wpList_store_mid rfl 80 (.tmp 4) (.tmp 26) rfl q4 0 roundV rfl rfl HTH.out (by kernel_rfl) roundV_one ?_)
  refine HP.out.mono ?_
  rintro e w6 ⟨v5, rfl, hr6, hs6⟩
  obtain ⟨P, hP⟩ : ∃ P, padS l = P := ⟨_, rfl⟩
  have hpl := padS_len l
  rw [hP] at hr6 hpl
  have hP3 : P.length ≤ 140737488355328 := by have := HN.out; omega
  obtain ⟨N, hN⟩ : ∃ N, P.length = N := ⟨_, rfl⟩
  have hg5 : q4 < ((w4.alloc (.cells (rowW []) 80)).setCells q4 0 roundV.toList).heap.size := (Array.getElem?_eq_some_iff.1 HTB5.out).1
  obtain ⟨a5, c5, rfl, hat, _, hc5⟩ := hr6.shape
  obtain ⟨g, off, rfl, _⟩ := hat 0 (by omega)
  have hgq : q4 < g := Nat.lt_of_lt_of_le hg5 (hr6.lt g rfl).1
  have HRF : Hid (RefAt q2 q3 q4 g off P w (takeS 0 startS P) w6) := Lib.hid ⟨by rw [takeS, start_row]; exact hs6.heap HST5.out (fun h => h), hs6.heap HTB5.out (fun h => h), hs6.heap HQ5.out (fun h => h), hat, HS5.out.trans hs6⟩
  have HPP := Lib.hid hP
  have HGQ := Lib.hid hgq
  rw [hN] at hpl hP3 hc5
  rw [hN]
  have HNN := Lib.hid hN
  have HPL := Lib.hid hpl
  clear hP hpl hg5 hat hgq hr6 hs6 HTB5 HST5 HQ5 HS5 HTH HP hN hq4
  go_wp2
  go_loopw [6] (fun i wr => ∃ m : Nat, 64 * m ≤ N ∧ i = .int .i64 ((64 * m : Nat) : Int) ∧ Hid (RefAt q2 q3 q4 g off P w (takeS m startS P) wr)) (fun i _ => N - (intOf i).toNat)
  case atStart => exact ⟨0, by omega, rfl, HRF⟩
  clear HRF
  case round =>
    obtain ⟨m, hm, rfl, HRF⟩ := hrel
    obtain ⟨A, hA⟩ : ∃ A, 64 * m = A := ⟨_, rfl⟩
    rw [hA] at hm
    rw [hA]
    by_cases hlt : A < N
    · have i1 : (A : Int) < (N : Int) := by omega
      have hAN : A + 64 ≤ N := by have := HPL.out.1; omega
      obtain ⟨S, hS⟩ : ∃ S, takeS m startS P = S := ⟨_, rfl⟩
      rw [hS] at HRF
      obtain ⟨B, hB⟩ : ∃ B, P.drop A = B := ⟨_, rfl⟩
      have HSS := Lib.hid hS
      have HB := Lib.hid hB
      have HAM := Lib.hid hA
      obtain ⟨q7, hq7⟩ : ∃ q, wr.heap.size = q := ⟨_, rfl⟩
      have hal := heap_alloc_new wr (.cells (rowW []) 80)
      rw [hq7] at hal
      have HRF7 : Hid (RefAt q2 q3 q4 g off P w S (wr.alloc (.cells (rowW []) 80))) := Lib.hid (HRF.out.keep ((Spares.refl nowhere wr).alloc _) (fun h => h) (fun h => h) (fun h => h) (fun h => h) (fun b h => by cases h))
      have HROW : Hid ((wr.alloc (.cells (rowW []) 80)).heap[q7]? = some (.cells (rowW (wordsOf 0 B)) 80 (0, 0))) := Lib.hid hal
      have h7 : q3 < q7 ∧ g < q7 ∧ q4 < q7 ∧ q2 < q7 ∧ w.heap.size ≤ q7 := by
        rw [← hq7]
        refine ⟨(Array.getElem?_eq_some_iff.1 HRF.out.st).1, ?_, (Array.getElem?_eq_some_iff.1 HRF.out.tb).1, (Array.getElem?_eq_some_iff.1 HRF.out.key).1, HRF.out.sp.size⟩
        obtain ⟨b', off', he', hc⟩ := HRF.out.pad 0 (by have := HNN.out; omega)
        cases he'
        rcases Nat.lt_or_ge g wr.heap.size with h | h
        · exact h
        · simp [World.cell?, Array.getElem?_eq_none h] at hc
      have H7 := Lib.hid h7
      clear hS hB hA hal h7
      go_wp2
      go_loopw [8] (fun i wr => ∃ k : Nat, k ≤ 16 ∧ i = .int .i64 k ∧ Hid (wr.heap[q7]? = some (.cells (rowW (wordsOf k B)) 80 (0, 0))) ∧ Hid (RefAt q2 q3 q4 g off P w S wr)) (fun i _ => 16 - (intOf i).toNat)
      case atStart => exact ⟨0, by omega, rfl, HROW, HRF7⟩
      clear HROW HRF7 HRF
      case round =>
        obtain ⟨k, hk, rfl, HROW, HRF⟩ := hrel
        by_cases hlt2 : k < 16
        · --L2
          obtain ⟨t, ht⟩ : ∃ t, 4 * k = t := ⟨_, rfl⟩
          obtain ⟨i0, hi0⟩ : ∃ i, A + t = i := ⟨_, rfl⟩
          obtain ⟨i1', hi1⟩ : ∃ i, i0 + 1 = i := ⟨_, rfl⟩
          obtain ⟨i2', hi2⟩ : ∃ i, i0 + 2 = i := ⟨_, rfl⟩
          obtain ⟨i3', hi3⟩ : ∃ i, i0 + 3 = i := ⟨_, rfl⟩
          have hti : (4 : Int) * (k : Int) = (t : Int) := by omega
          have h0i : (A : Int) + (t : Int) = (i0 : Int) := by omega
          have h1i : (i0 : Int) + 1 = (i1' : Int) := by omega
          have h2i : (i0 : Int) + 2 = (i2' : Int) := by omega
          have h3i : (i0 : Int) + 3 = (i3' : Int) := by omega
          have hb3 : i3' < N := by omega
          have b0 : (i0 : Int) < (N : Int) := by omega
          have b1 : (i1' : Int) < (N : Int) := by omega
          have b2 : (i2' : Int) < (N : Int) := by omega
          have b3 : (i3' : Int) < (N : Int) := by omega
          have bk : (k : Int) < 64 := by omega
          obtain ⟨x0, hx0⟩ : ∃ x, P.getD i0 0 = x := ⟨_, rfl⟩
          obtain ⟨x1, hx1⟩ : ∃ x, P.getD i1' 0 = x := ⟨_, rfl⟩
          obtain ⟨x2, hx2⟩ : ∃ x, P.getD i2' 0 = x := ⟨_, rfl⟩
          obtain ⟨x3, hx3⟩ : ∃ x, P.getD i3' 0 = x := ⟨_, rfl⟩
          have hPN := HNN.out
          have c0 : wr.cell? ⟨g, off + i0, none⟩ = some (.int .u8 x0.toNat) := by rw [← hx0]; exact byte_cell HRF.out.pad i0 (by omega)
          have c1 : wr.cell? ⟨g, off + i1', none⟩ = some (.int .u8 x1.toNat) := by rw [← hx1]; exact byte_cell HRF.out.pad i1' (by omega)
          have c2 : wr.cell? ⟨g, off + i2', none⟩ = some (.int .u8 x2.toNat) := by rw [← hx2]; exact byte_cell HRF.out.pad i2' (by omega)
          have c3 : wr.cell? ⟨g, off + i3', none⟩ = some (.int .u8 x3.toNat) := by rw [← hx3]; exact byte_cell HRF.out.pad i3' (by omega)
          have hfz : wr.frozen? ⟨q7, k, none⟩ = false := heap_frozen HROW.out k
          have hcl : wr.cell? ⟨q7, k, none⟩ = some (.int .u32 0) := by
            rw [Lib.cell_of_heap HROW.out]
            exact rowW_zero _ _ (by rw [wordsOf_len]; omega) (by omega)
          have HWD : Hid (beW x0 x1 x2 x3 = wordAt B k) := Lib.hid (by
            unfold wordAt
            rw [← HB.out, getD_drop, getD_drop, getD_drop, getD_drop, ← hx0, ← hx1, ← hx2, ← hx3, ← hi1, ← hi2, ← hi3, ← hi0, ← ht]
            simp only [Nat.add_assoc])
          have fbe := beW_int
          have l0 := x0.toNat_lt
          have l1 := x1.toNat_lt
          have l2 := x2.toNat_lt
          have l3 := x3.toNat_lt
          clear hx0 hx1 hx2 hx3 hPN ht hi0 hi1 hi2 hi3 hb3
          go_upto_region 11 with (fail)
          refine wp_region_quiet_tail 43 (by kernel_rfl) (by kernel_rfl) ?_
          simp only [List.take_succ_cons, List.take_zero, List.drop_succ_cons, List.drop_zero]
          repeat (go_big_quiet_step (fail))
          refine wpQuiet_nil ?_
          rintro w9 ⟨nq, rfl⟩

          go_wp2
          go_roundw
          case rel =>
            refine ⟨k + 1, by omega, by go_num, Lib.hid ?_, Lib.hid ?_⟩
            · refine (heap_set (w := wr.drewN nq) HROW.out k _).trans ?_
              rw [wordsOf_succ, ← HWD.out]
              have := rowW_set (wordsOf k B) (beW x0 x1 x2 x3) (by rw [wordsOf_len]; omega)
              rw [wordsOf_len] at this
              exact congrArg (fun r => some (Obj.cells r 80 (0, 0))) this
            · exact HRF.out.keep (F := fun b => b = q7) (spares_set (g := q7) ((Spares.refl (fun b => b = q7) wr).drewN nq) k _) (fun h => by have := H7.out; omega) (fun h => by have := H7.out; omega) (fun h => by have := H7.out; omega) (fun h => by have := H7.out; omega) (fun b h => by have := H7.out; omega)
          case measure => simp [intOf]; omega
        · obtain rfl : k = 16 := by omega
          have HROW0 := Lib.hid HROW.out
          rw [show ((16 : Nat) : Int) = 16 from rfl]
          clear HROW hk hlt2
          go_wp2
          go_loopw [9] (fun i wr => ∃ k : Nat, k ≤ 48 ∧ i = .int .i64 ((k + 16 : Nat) : Int) ∧ Hid (wr.heap[q7]? = some (.cells (rowW (moreW k (wordsOf 16 B))) 80 (0, 0))) ∧ Hid (RefAt q2 q3 q4 g off P w S wr)) (fun i _ => 64 - (intOf i).toNat)
          case atStart => exact ⟨0, by omega, rfl, HROW0, HRF⟩
          clear HROW0 HRF
          case round =>
            obtain ⟨k, hk, rfl, HROW, HRF⟩ := hrel
            by_cases hlt2 : k < 48
            · --L3
              have fx := xorW_int
              have fa := addW_wrap
              have fa2 := addW_int
              have fs3 : ∀ x : UInt32, (x.toNat : Int) / 8 = ((shrW x 3).toNat : Int) := fun x => shrW_int x 3
              have fs10 : ∀ x : UInt32, (x.toNat : Int) / 1024 = ((shrW x 10).toNat : Int) := fun x => shrW_int x 10
              obtain ⟨R, hR⟩ : ∃ R, moreW k (wordsOf 16 B) = R := ⟨_, rfl⟩
              have hlen : R.length = k + 16 := by rw [← hR, moreW_len, wordsOf_len]; omega
              rw [hR] at HROW
              have HRR := Lib.hid hR
              obtain ⟨j, hj⟩ : ∃ j, k + 16 = j := ⟨_, rfl⟩
              rw [hj] at hlen
              obtain ⟨x0, hx0⟩ : ∃ x, R.getD k 0 = x := ⟨_, rfl⟩
              obtain ⟨x1, hx1⟩ : ∃ x, R.getD (k + 1) 0 = x := ⟨_, rfl⟩
              obtain ⟨x9, hx9⟩ : ∃ x, R.getD (k + 9) 0 = x := ⟨_, rfl⟩
              obtain ⟨x14, hx14⟩ : ∃ x, R.getD (k + 14) 0 = x := ⟨_, rfl⟩
              have c0 : wr.cell? ⟨q7, k, none⟩ = some (.int .u32 x0.toNat) := by rw [Lib.cell_of_heap HROW.out, rowW_get R k (by omega), hx0]
              have c1 : wr.cell? ⟨q7, k + 1, none⟩ = some (.int .u32 x1.toNat) := by rw [Lib.cell_of_heap HROW.out, rowW_get R _ (by omega), hx1]
              have c9 : wr.cell? ⟨q7, k + 9, none⟩ = some (.int .u32 x9.toNat) := by rw [Lib.cell_of_heap HROW.out, rowW_get R _ (by omega), hx9]
              have c14 : wr.cell? ⟨q7, k + 14, none⟩ = some (.int .u32 x14.toNat) := by rw [Lib.cell_of_heap HROW.out, rowW_get R _ (by omega), hx14]
              have cj : wr.cell? ⟨q7, j, none⟩ = some (.int .u32 0) := by
                rw [Lib.cell_of_heap HROW.out]
                exact rowW_zero _ _ (by omega) (by omega)
              have hfz : wr.frozen? ⟨q7, j, none⟩ = false := heap_frozen HROW.out j
              have hnext : nextW R = addW (addW (addW x0 (smallS x1)) x9) (greatS x14) := by
                unfold nextW
                rw [show R.length - 16 = k by omega, show R.length - 15 = k + 1 by omega, show R.length - 7 = k + 9 by omega, show R.length - 2 = k + 14 by omega, hx0, hx1, hx9, hx14]
              have HNX := Lib.hid hnext
              obtain ⟨j1, hj1⟩ : ∃ j, k + 1 = j := ⟨_, rfl⟩
              obtain ⟨j9, hj9⟩ : ∃ j, k + 9 = j := ⟨_, rfl⟩
              obtain ⟨j14, hj14⟩ : ∃ j, k + 14 = j := ⟨_, rfl⟩
              rw [hj1] at c1
              rw [hj9] at c9
              rw [hj14] at c14
              have g15 : (j : Int) - 15 = (j1 : Int) := by omega
              have g2 : (j : Int) - 2 = (j14 : Int) := by omega
              have g16 : (j : Int) - 16 = (k : Int) := by omega
              have g7 : (j : Int) - 7 = (j9 : Int) := by omega
              have b1 : (j1 : Int) < 64 := by omega
              have b14 : (j14 : Int) < 64 := by omega
              have b9 : (j9 : Int) < 64 := by omega
              have b0 : (k : Int) < 64 := by omega
              have bj : (j : Int) < 64 := by omega
              have HK := Lib.hid hj
              have HLEN := Lib.hid hlen
              rw [hj]
              clear hx0 hx1 hx9 hx14 hnext hR hj1 hj9 hj14 hlen
              go_upto_region 15 with (fail)
              go_quiet (fail)
              go_upto_region 16 with (fail)
              obtain ⟨w8, hw8⟩ : ∃ w8, wr.drewN nq = w8 := ⟨_, rfl⟩
              rw [hw8]
              have d0 : w8.cell? ⟨q7, k, none⟩ = some (.int .u32 x0.toNat) := by rw [← hw8]; exact c0
              have d9 : w8.cell? ⟨q7, j9, none⟩ = some (.int .u32 x9.toNat) := by rw [← hw8]; exact c9
              have dj : w8.cell? ⟨q7, j, none⟩ = some (.int .u32 0) := by rw [← hw8]; exact cj
              have dfz : w8.frozen? ⟨q7, j, none⟩ = false := by rw [← hw8]; exact hfz
              have HROW8 : Hid (w8.heap[q7]? = some (.cells (rowW R) 80 (0, 0))) := Lib.hid (by rw [← hw8]; exact HROW.out)
              have HRF8 : Hid (RefAt q2 q3 q4 g off P w S w8) := Lib.hid (by rw [← hw8]; exact HRF.out.keep (F := nowhere) ((Spares.refl _ wr).drewN nq) (fun h => h) (fun h => h) (fun h => h) (fun h => h) (fun b h => by cases h))
              clear c0 c1 c9 c14 cj hfz hw8 HROW HRF
              refine wp_region_quiet_tail 29 (by kernel_rfl) (by kernel_rfl) ?_
              simp only [List.take_succ_cons, List.take_zero, List.drop_succ_cons, List.drop_zero]
              repeat (go_big_quiet_step ((go_at_call 41; exact Calls.quiet_of (turn_int _ _ (by decide) (by decide) _))))
              refine wpQuiet_nil ?_
              rintro w9 ⟨nq, rfl⟩

              go_wp2
              go_roundw
              case rel =>
                refine ⟨k + 1, by omega, by rw [show ((k + 1 + 16 : Nat) : Int) = (j : Int) + 1 by have := HK.out; omega], Lib.hid ?_, Lib.hid ?_⟩
                · refine (heap_set (w := w8.drewN nq) HROW8.out j _).trans ?_
                  have hrow := rowW_set R (nextW R) (by have := HLEN.out; omega)
                  rw [HLEN.out, HNX.out] at hrow
                  rw [moreW_succ, HRR.out, HNX.out]
                  exact congrArg (fun r => some (Obj.cells r 80 (0, 0))) hrow
                · exact HRF8.out.keep (F := fun b => b = q7) (spares_set (g := q7) ((Spares.refl (fun b => b = q7) w8).drewN _) j _) (fun h => by have := H7.out; omega) (fun h => by have := H7.out; omega) (fun h => by have := H7.out; omega) (fun h => by have := H7.out; omega) (fun b h => by have := H7.out; omega)
              case measure => simp [intOf]; omega
            · obtain rfl : k = 48 := by omega
              obtain ⟨R, hR⟩ : ∃ R, moreW 48 (wordsOf 16 B) = R := ⟨_, rfl⟩
              have hlen : R.length = 64 := by rw [← hR, moreW_len, wordsOf_len]
              rw [hR] at HROW
              have HRR := Lib.hid hR
              have HLEN := Lib.hid hlen
              have s0 : wr.cell? ⟨q3, 0, none⟩ = some (.int .u32 S.a.toNat) := state_cell HRF.out.st 0 (by decide)
              have s1 : wr.cell? ⟨q3, 1, none⟩ = some (.int .u32 S.b.toNat) := state_cell HRF.out.st 1 (by decide)
              have s2 : wr.cell? ⟨q3, 2, none⟩ = some (.int .u32 S.c.toNat) := state_cell HRF.out.st 2 (by decide)
              have s3 : wr.cell? ⟨q3, 3, none⟩ = some (.int .u32 S.d.toNat) := state_cell HRF.out.st 3 (by decide)
              have s4 : wr.cell? ⟨q3, 4, none⟩ = some (.int .u32 S.e.toNat) := state_cell HRF.out.st 4 (by decide)
              have s5 : wr.cell? ⟨q3, 5, none⟩ = some (.int .u32 S.f.toNat) := state_cell HRF.out.st 5 (by decide)
              have s6 : wr.cell? ⟨q3, 6, none⟩ = some (.int .u32 S.g.toNat) := state_cell HRF.out.st 6 (by decide)
              have s7 : wr.cell? ⟨q3, 7, none⟩ = some (.int .u32 S.h.toNat) := state_cell HRF.out.st 7 (by decide)
              rw [show ((48 + 16 : Nat) : Int) = 64 from rfl]
              clear hR hlen hk hlt2
              go_upto_region 17 with (fail)
              go_quiet (fail)
              obtain ⟨w8, hw8⟩ : ∃ w8, wr.drewN nq = w8 := ⟨_, rfl⟩
              rw [hw8]
              have HROW8 : Hid (w8.heap[q7]? = some (.cells (rowW R) 80 (0, 0))) := Lib.hid (by rw [← hw8]; exact HROW.out)
              have HRF8 : Hid (RefAt q2 q3 q4 g off P w S w8) := Lib.hid (by rw [← hw8]; exact HRF.out.keep (F := nowhere) ((Spares.refl _ wr).drewN nq) (fun h => h) (fun h => h) (fun h => h) (fun h => h) (fun b h => by cases h))
              clear s0 s1 s2 s3 s4 s5 s6 s7 hw8 HROW HRF
              go_wp2
              go_loopw [12, 13, 14, 15, 16, 17, 18, 19, 20] (fun va vb vc vd ve vf vg vh i wr => ∃ (k : Nat) (t : S8), k ≤ 64 ∧ i = .int .i64 k ∧ va = .int .u32 t.a.toNat ∧ vb = .int .u32 t.b.toNat ∧ vc = .int .u32 t.c.toNat ∧ vd = .int .u32 t.d.toNat ∧ ve = .int .u32 t.e.toNat ∧ vf = .int .u32 t.f.toNat ∧ vg = .int .u32 t.g.toNat ∧ vh = .int .u32 t.h.toNat ∧ Hid (runS R S k = t) ∧ Hid (wr.heap[q7]? = some (.cells (rowW R) 80 (0, 0))) ∧ Hid (RefAt q2 q3 q4 g off P w S wr)) (fun _ _ _ _ _ _ _ _ i _ => 64 - (intOf i).toNat)
              case atStart => exact ⟨0, S, by omega, rfl, rfl, rfl, rfl, rfl, rfl, rfl, rfl, rfl, Lib.hid rfl, HROW8, HRF8⟩
              clear HROW8 HRF8
              case round =>
                obtain ⟨k, t, hk, rfl, rfl, rfl, rfl, rfl, rfl, rfl, rfl, rfl, HR, HROW, HRF⟩ := hrel
                by_cases hlt2 : k < 64
                · --L4
                  have fx := xorW_int
                  have fa := addW_wrap
                  have fa2 := addW_int
                  have fb := andW_int
                  have fn := notW_walk
                  obtain ⟨kw, hkw⟩ : ∃ x, roundK.getD k 0 = x := ⟨_, rfl⟩
                  obtain ⟨xw, hxw⟩ : ∃ x, R.getD k 0 = x := ⟨_, rfl⟩
                  have cw : wr.cell? ⟨q7, k, none⟩ = some (.int .u32 xw.toNat) := by rw [Lib.cell_of_heap HROW.out, rowW_get R k (by have := HLEN.out; omega), hxw]
                  have ck : wr.cell? ⟨q4, k, none⟩ = some (.int .u32 kw.toNat) := by rw [← hkw]; exact table_cell HRF.out.tb k hlt2
                  have HKW := Lib.hid hkw
                  have HXW := Lib.hid hxw
                  clear hkw hxw
                  have bk : (k : Int) < 64 := by omega
                  have T2 : ∀ (x : UInt32) w, Calls Tryd.prog 41 #[.int .u32 x.toNat, .int .i64 2] w fun e w' => e = .returned (.int .u32 (rotW x 2).toNat) ∧ ∃ n, w' = w.drewN n := fun x w => turn_any x 2 (by decide) (by decide) w
                  have T13 : ∀ (x : UInt32) w, Calls Tryd.prog 41 #[.int .u32 x.toNat, .int .i64 13] w fun e w' => e = .returned (.int .u32 (rotW x 13).toNat) ∧ ∃ n, w' = w.drewN n := fun x w => turn_any x 13 (by decide) (by decide) w
                  have T22 : ∀ (x : UInt32) w, Calls Tryd.prog 41 #[.int .u32 x.toNat, .int .i64 22] w fun e w' => e = .returned (.int .u32 (rotW x 22).toNat) ∧ ∃ n, w' = w.drewN n := fun x w => turn_any x 22 (by decide) (by decide) w
                  go_upto_region 21 with (fail)
                  go_quiet ((go_at_call 41; exact Calls.quiet_of (turn_int _ _ (by decide) (by decide) _)))
                  obtain ⟨w8, hw8⟩ : ∃ w8, wr.drewN nq = w8 := ⟨_, rfl⟩
                  rw [hw8]
                  have HROW8 : Hid (w8.heap[q7]? = some (.cells (rowW R) 80 (0, 0))) := Lib.hid (by rw [← hw8]; exact HROW.out)
                  have HRF8 : Hid (RefAt q2 q3 q4 g off P w S w8) := Lib.hid (by rw [← hw8]; exact HRF.out.keep (F := nowhere) ((Spares.refl _ wr).drewN nq) (fun h => h) (fun h => h) (fun h => h) (fun h => h) (fun b h => by cases h))
                  clear cw ck hw8 HROW HRF
                  go_wp2_with fail
                  refine (T2 _ _).mono ?_
                  rintro e w3 ⟨rfl, m1, rfl⟩
                  go_wp2_with fail
                  refine (T13 _ _).mono ?_
                  rintro e w3 ⟨rfl, m2, rfl⟩
                  go_wp2_with fail
                  refine (T22 _ _).mono ?_
                  rintro e w3 ⟨rfl, m3, rfl⟩
                  go_wp2
                  go_roundw
                  case rel =>
                    refine ⟨k + 1, stepS t kw xw, by omega, by go_num, ?_, rfl, rfl, rfl, rfl, rfl, rfl, rfl, Lib.hid (by rw [runS, HR.out, HKW.out, HXW.out]), Lib.hid HROW8.out, Lib.hid ?_⟩
                    · exact congrArg (fun x : UInt32 => Value.int .u32 (x.toNat : Int)) (addW_assoc _ _ _).symm
                    · exact HRF8.out.keep (F := nowhere) ((Spares.refl _ w8).drewN (m1 + m2 + m3)) (fun h => h) (fun h => h) (fun h => h) (fun h => h) (fun b h => by cases h)
                  case measure => simp [intOf]; omega
                · --L4exit
                  obtain rfl : k = 64 := by omega
                  have fa := addW_wrap
                  have fa2 := addW_int
                  have HT : Hid (addS S t = takeS (m + 1) startS P) := Lib.hid (by rw [takeS_snoc, HSS.out, mixS_take, HAM.out, HB.out, ← HR.out, runS_all R HLEN.out, mixS, HRR.out])
                  have HST := Lib.hid HRF.out.st
                  have s0 : wr.cell? ⟨q3, 0, none⟩ = some (.int .u32 S.a.toNat) := state_cell HRF.out.st 0 (by decide)
                  have z0 : wr.frozen? ⟨q3, 0, none⟩ = false := heap_frozen HRF.out.st 0
                  have s1 : wr.cell? ⟨q3, 1, none⟩ = some (.int .u32 S.b.toNat) := state_cell HRF.out.st 1 (by decide)
                  have z1 : wr.frozen? ⟨q3, 1, none⟩ = false := heap_frozen HRF.out.st 1
                  have s2 : wr.cell? ⟨q3, 2, none⟩ = some (.int .u32 S.c.toNat) := state_cell HRF.out.st 2 (by decide)
                  have z2 : wr.frozen? ⟨q3, 2, none⟩ = false := heap_frozen HRF.out.st 2
                  have s3 : wr.cell? ⟨q3, 3, none⟩ = some (.int .u32 S.d.toNat) := state_cell HRF.out.st 3 (by decide)
                  have z3 : wr.frozen? ⟨q3, 3, none⟩ = false := heap_frozen HRF.out.st 3
                  have s4 : wr.cell? ⟨q3, 4, none⟩ = some (.int .u32 S.e.toNat) := state_cell HRF.out.st 4 (by decide)
                  have z4 : wr.frozen? ⟨q3, 4, none⟩ = false := heap_frozen HRF.out.st 4
                  have s5 : wr.cell? ⟨q3, 5, none⟩ = some (.int .u32 S.f.toNat) := state_cell HRF.out.st 5 (by decide)
                  have z5 : wr.frozen? ⟨q3, 5, none⟩ = false := heap_frozen HRF.out.st 5
                  have s6 : wr.cell? ⟨q3, 6, none⟩ = some (.int .u32 S.g.toNat) := state_cell HRF.out.st 6 (by decide)
                  have z6 : wr.frozen? ⟨q3, 6, none⟩ = false := heap_frozen HRF.out.st 6
                  have s7 : wr.cell? ⟨q3, 7, none⟩ = some (.int .u32 S.h.toNat) := state_cell HRF.out.st 7 (by decide)
                  have z7 : wr.frozen? ⟨q3, 7, none⟩ = false := heap_frozen HRF.out.st 7
                  have hA64 : (A : Int) + 64 = ((64 * (m + 1) : Nat) : Int) := by have := HAM.out; omega
                  clear hk hlt2 HR HROW
                  go_wp2
                  go_roundw
                  case rel =>
                    refine ⟨m + 1, by have := HAM.out; omega, congrArg (Value.int .i64) (by omega), Lib.hid ?_⟩
                    rw [← HT.out]
                    have hd := HORD.out
                    have hgd := HGQ.out
                    exact HRF.out.add t (by omega) (by omega) (by omega) (by omega)
                  case measure => simp [intOf]; omega
    · --END
      obtain rfl : A = N := by omega
      obtain ⟨S, hS⟩ : ∃ S, takeS m startS P = S := ⟨_, rfl⟩
      rw [hS] at HRF
      have HO : Hid (outS S = shaF l) := Lib.hid (by
        unfold shaF
        rw [HPP.out, HNN.out, ← hA, Nat.mul_div_cancel_left _ (by omega), hS])
      obtain ⟨qk, hqk⟩ : ∃ q, wr.heap.size = q := ⟨_, rfl⟩
      have hal := heap_alloc_new wr (.cells (bytesV (List.replicate 32 0)) 22)
      rw [hqk] at hal
      have HRFK : Hid (RefAt q2 q3 q4 g off P w S (wr.alloc (.cells (bytesV (List.replicate 32 0)) 22))) := Lib.hid (HRF.out.keep ((Spares.refl nowhere wr).alloc _) (fun h => h) (fun h => h) (fun h => h) (fun h => h) (fun b h => by cases h))
      have hOl : (outS S).length = 32 := by rw [← outK_all, outK_len 8 (by omega)]
      have HKEY : Hid ((wr.alloc (.cells (bytesV (List.replicate 32 0)) 22)).heap[qk]? = some (.cells (bytesV ((outS S).take 0 ++ List.replicate (32 - 0) 0)) 22 (0, 0))) := Lib.hid (by rw [List.take_zero, List.nil_append]; exact hal)
      have h7 : q3 < qk ∧ g < qk ∧ q4 < qk ∧ q2 < qk ∧ w.heap.size ≤ qk := by
        rw [← hqk]
        refine ⟨(Array.getElem?_eq_some_iff.1 HRF.out.st).1, ?_, (Array.getElem?_eq_some_iff.1 HRF.out.tb).1, (Array.getElem?_eq_some_iff.1 HRF.out.key).1, HRF.out.sp.size⟩
        obtain ⟨b', off', he', hc⟩ := HRF.out.pad 0 (by have := HNN.out; have := HPL.out; omega)
        cases he'
        rcases Nat.lt_or_ge g wr.heap.size with h | h
        · exact h
        · simp [World.cell?, Array.getElem?_eq_none h] at hc
      have H7 := Lib.hid h7
      have HOL := Lib.hid hOl
      clear hS hal h7 hlt hm hOl HRF
      go_wp2
      go_loopw [24] (fun i wr => ∃ k : Nat, k ≤ 32 ∧ i = .int .i64 k ∧ Hid (wr.heap[qk]? = some (.cells (bytesV ((outS S).take k ++ List.replicate (32 - k) 0)) 22 (0, 0))) ∧ Hid (RefAt q2 q3 q4 g off P w S wr)) (fun i _ => 32 - (intOf i).toNat)
      case atStart => exact ⟨0, by omega, rfl, HKEY, HRFK⟩
      clear HKEY HRFK
      case round =>
        obtain ⟨k, hk, rfl, HKEY, HRF⟩ := hrel
        by_cases hlt : k < 32
        · obtain ⟨d, hd⟩ : ∃ d, k / 4 = d := ⟨_, rfl⟩
          obtain ⟨r, hr⟩ : ∃ r, k % 4 = r := ⟨_, rfl⟩
          obtain ⟨s8, hs8⟩ : ∃ s, 8 * r = s := ⟨_, rfl⟩
          obtain ⟨s, hs⟩ : ∃ s, 24 - s8 = s := ⟨_, rfl⟩
          have e1 : (k : Int) / 4 = (d : Int) := by omega
          have e2 : (k : Int) % 4 = (r : Int) := by omega
          have e3 : (8 : Int) * (r : Int) = (s8 : Int) := by omega
          have e4 : (24 : Int) - (s8 : Int) = (s : Int) := by omega
          have e5 : (k : Int).tdiv 4 = (d : Int) := by rw [Int.tdiv_eq_ediv_of_nonneg (by omega)]; exact e1
          have e6 : (k : Int).tmod 4 = (r : Int) := by rw [Int.tmod_eq_emod_of_nonneg (by omega)]; exact e2
          have b1 : (k : Int) < 32 := by omega
          have b2 : (d : Int) < 8 := by omega
          have b3 : (s : Int) ≤ 32 := by omega
          have b4 : (0 : Int) ≤ (s : Int) := by omega
          obtain ⟨x, hx⟩ : ∃ x, (wl S).getD d 0 = x := ⟨_, rfl⟩
          have c1 : wr.cell? ⟨q3, d, none⟩ = some (.int .u32 x.toNat) := by rw [← hx]; exact state_cell HRF.out.st d (by omega)
          obtain ⟨y, hy⟩ : ∃ y, byW x r = y := ⟨_, rfl⟩
          have e7 : ((x.toNat : Int) / 2 ^ s) % 256 = (y.toNat : Int) := by rw [← hy]; exact byte_of x r s (by omega)
          have e8 : IntKind.u8.wrap ((x.toNat : Int) / 2 ^ s) = (y.toNat : Int) := by rw [← e7, IntKind.wrap_u8]
          have HY : Hid ((outS S).take (k + 1) = (outS S).take k ++ [y]) := Lib.hid (by rw [← hy, ← hx, ← hd, ← hr]; exact outS_take S k hlt)
          have c2 : wr.cell? ⟨qk, k, none⟩ = some (.int .u8 0) := by
            rw [Lib.cell_of_heap HKEY.out, bytesV_get _ _ (by rw [List.length_append, List.length_take, List.length_replicate, HOL.out]; omega), List.getD_eq_getElem?_getD, List.getElem?_append_right (by rw [List.length_take]; omega), List.getElem?_replicate, if_pos (by rw [List.length_take, HOL.out]; omega)]
            rfl
          have hfz : wr.frozen? ⟨qk, k, none⟩ = false := heap_frozen HKEY.out k
          clear hd hr hs8 hs hx hy
          go_wp2
          go_roundw
          case rel =>
            refine ⟨k + 1, by omega, by go_num, Lib.hid ?_, Lib.hid ?_⟩
            · refine (heap_set HKEY.out k _).trans ?_
              have hb := bytesV_set ((outS S).take k) (List.replicate (32 - (k + 1)) 0) 0 y
              have hlk : ((outS S).take k).length = k := by rw [List.length_take, HOL.out]; omega
              rw [hlk] at hb
              rw [HY.out, List.append_assoc, show 32 - k = (32 - (k + 1)) + 1 by omega, List.replicate_succ]
              exact congrArg (fun r => some (Obj.cells r 22 (0, 0))) hb
            · exact HRF.out.keep (F := fun b => b = qk) (spares_set (g := qk) (Spares.refl (fun b => b = qk) wr) k _) (fun h => by have := H7.out; omega) (fun h => by have := H7.out; omega) (fun h => by have := H7.out; omega) (fun h => by have := H7.out; omega) (fun b h => by have := H7.out; omega)
          case measure => simp [intOf]; omega
        · obtain rfl : k = 32 := by omega
          have hkk : wr.heap[qk]? = some (.cells (bytesV (outS S)) 22 (0, 0)) := by
            have := HKEY.out
            rw [List.take_of_length_le (by rw [HOL.out]; omega), show 32 - 32 = 0 from rfl, List.replicate_zero, List.append_nil] at this
            exact this
          have hrk : wr.rangeAt qk 0 (Lib.byteCells (outS S)) := range_of hkk 0 _ (fun j v hj => by rw [Nat.zero_add, bytesV, List.getElem?_toArray]; exact hj)
          have htq : wr.there q2 0 (bytesV (outS S)).size := there_of HRF.out.key 0 _ (by rw [bytesV_size, bytesV_size, HOL.out]; simp)
          have hgq : (wr.setCells q2 0 (Lib.byteCells (outS S))).heap[q2]? = some (.cells (bytesV (outS S)) 22 (0, 0)) := by
            have := heap_setCells (g := q2) (t := 22) (Lib.byteCells (outS S)) [] (Lib.byteCells (List.replicate 32 0)) [] wr (by rw [List.append_nil]; exact HRF.out.key) (by rw [byteCells_len, byteCells_len, HOL.out]; simp)
            rw [List.append_nil] at this
            exact this
          have HRK := Lib.hid hrk
          have HTQ := Lib.hid htq
          have HGK := Lib.hid hgq
          have HSP := Lib.hid HRF.out.sp
          have i1 : (Tryd.prog.info? 22).map (·.size) = some (Lib.byteCells (outS S)).length := by rw [byteCells_len, HOL.out]; kernel_rfl
          have i2 : (Tryd.prog.info? 22).map (·.size) = some (bytesV (outS S)).size := by rw [bytesV_size, HOL.out]; kernel_rfl
          have HI1 := Lib.hid i1
          have HI2 := Lib.hid i2
          clear hkk hrk htq hgq i1 i2 hk hlt HKEY HRF
          go_wp2_with (first
            | ((with_reducible show wpList _ _ _ (⟨some 258, _, _, _, _, _⟩ :: _) _ _); refine wpList_load_mid rfl 22 (.tmp 23) rfl qk 0 rfl (Lib.byteCells (outS S)) _ HRK.out Tryd.underlying22 rfl HI1.out ?_)
            | ((with_reducible show wpList _ _ _ (⟨none, .store 22 _ _, _, _, _, _⟩ :: _) _ _); refine wpList_store_mid rfl 22 (.tmp 2) (.tmp 258) rfl q2 0 (bytesV (outS S)) rfl rfl HTQ.out HI2.out (bytesV_one _) ?_))
          rw [← HO.out]
          exact bodyPost_ret (v := .agg (bytesV (outS S))) (results_cell_row rfl _ _ q2 22 (bytesV (outS S)) (0, 0) _ rfl HGK.out Tryd.underlying22 (by rfl) HI2.out) rfl ⟨rfl, HSP.out.trans' (F' := fun b => b = q2) (spares_setCells _ _ _ (Spares.refl _ _)) (fun b hb => .inr (by have := HORD.out; omega))⟩
end Go.Proofs.YtimpnnhadjfijaaDoor
