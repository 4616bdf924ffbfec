/-
  Key: the sum of the parts, each behind its length.
-/
import Derived.Test.YtfejnjgdgdhckaaShaSum
import Derived.Test.YtfejnjgdgdhckaaRow8
namespace Go.Proofs.Ytfejnjgdgdhckaa
open Go.RowKit

def be4 (n : Nat) : List UInt8 := [byW (UInt32.ofNat n) 0, byW (UInt32.ofNat n) 1, byW (UInt32.ofNat n) 2, byW (UInt32.ofNat n) 3]
def keyText (ps : List ByteArray) : List UInt8 := ps.flatMap fun p => be4 p.size ++ p.data.toList
theorem keyText_take (ps : List ByteArray) (k : Nat) (h : k < ps.length) : keyText (ps.take (k + 1)) = (keyText (ps.take k) ++ be4 (ps[k]).size) ++ (ps[k]).data.toList := by
  have e : ps.take (k + 1) = ps.take k ++ [ps[k]] := by rw [List.take_add_one, List.getElem?_eq_getElem h]; rfl
  unfold keyText
  rw [e, List.flatMap_append, List.append_assoc]
  simp only [List.flatMap_cons, List.flatMap_nil, List.append_nil]
theorem toList_size (p : ByteArray) : p.data.toList.length = p.size := by rw [Array.length_toList]; rfl
theorem keyText_le (ps : List ByteArray) (k : Nat) : (keyText (ps.take k)).length ≤ (keyText ps).length := by
  have h : keyText ps = keyText (ps.take k) ++ keyText (ps.drop k) := by
    unfold keyText
    rw [← List.flatMap_append, List.take_append_drop]
  rw [h, List.length_append]; omega
theorem slice_four (g : Nat) (w : World) : (Instr.sliceAt 60 (.pointer (some ⟨g, 0, none⟩)) none none none).run Try.prog w = .ok (.slice (some ⟨g, 0, none⟩) 4 4) w := by kernel_rfl
set_option maxRecDepth 100000 in
set_option maxHeartbeats 1000000 in
theorem key_any (a : Option Addr) (n c : Nat) (ps : List ByteArray) (w : World) (hl : StrsAt w a ps) (hn : n = ps.length) (hmax : (keyText ps).length ≤ 140737488355328) (hn63 : n < 9223372036854775808) :
    Calls Try.prog 10 #[.slice a n c] w fun e w' => e = .returned (.agg (bytesV (shaF (keyText ps)))) ∧ Spares nowhere w w' := by
  have HL := Lib.hid hl
  have HN := Lib.hid hn
  have HM := Lib.hid hmax
  have HS1 := Lib.hid ((Spares.refl nowhere w).alloc (.cells (bytesV (List.replicate 32 0)) 25))
  have HQ1 := Lib.hid (heap_alloc_new w (.cells (bytesV (List.replicate 32 0)) 25))
  clear hl hn hmax
  go_enter Try.func10, Try.ntmps10
  go_wp2
  go_loopw [3, 12] (fun s i wr => ∃ k : Nat, k ≤ n ∧ i = .int .i64 k ∧ s = .int .i64 ((keyText (ps.take k)).length : Int) ∧ Hid (Spares nowhere w wr) ∧ Hid (wr.heap[w.heap.size]? = some (.cells (bytesV (List.replicate 32 0)) 25 (0, 0)))) (fun _ i _ => n - (intOf i).toNat)
  case atStart => exact ⟨0, by omega, rfl, rfl, HS1, HQ1⟩
  clear HS1 HQ1
  case round =>
    obtain ⟨k, hk, rfl, rfl, HS1, HQ1⟩ := hrel
    obtain ⟨S, hS⟩ : ∃ S, (keyText (ps.take k)).length = S := ⟨_, rfl⟩
    rw [hS]
    have hSm : S ≤ 140737488355328 := by rw [← hS]; exact Nat.le_trans (keyText_le ps k) HM.out
    have HSS := Lib.hid hS
    clear hS
    by_cases hlt : k < n
    · have hk2 : k < ps.length := by have := HN.out; omega
      obtain ⟨b, off, rfl, hc⟩ := (HL.out.spares HS1.out (fun _ _ _ h => h)) k hk2
      obtain ⟨p, hp⟩ : ∃ p, ps[k] = p := ⟨_, rfl⟩
      rw [hp] at hc
      have hnx : (keyText (ps.take (k + 1))).length = S + (4 + p.size) := by
        rw [keyText_take ps k hk2, List.length_append, List.length_append, HSS.out, hp, toList_size]
        simp only [be4, List.length_cons, List.length_nil]
        omega
      have hnm : S + (4 + p.size) ≤ 140737488355328 := by rw [← hnx]; exact Nat.le_trans (keyText_le ps _) HM.out
      obtain ⟨z, hz⟩ : ∃ z, p.size = z := ⟨_, rfl⟩
      rw [hz] at hnx hnm
      have HNX := Lib.hid hnx
      clear hnx hp
      have i1 : (k : Int) < (n : Int) := by omega
      have i2 : (z : Int) ≤ 140737488355328 := by omega
      have i3 : (S : Int) + (4 + (z : Int)) ≤ 140737488355328 := by omega
      go_wp2
      go_roundw
      case rel =>
        refine ⟨k + 1, by omega, by go_num, ?_, HS1, HQ1⟩
        rw [HNX.out]
        simp
      case measure => simp [intOf]; omega
    · obtain rfl : k = n := by omega
      have hS2 : (keyText ps).length = S := by rw [← HSS.out, List.take_of_length_le (by have := HN.out; omega)]
      have HSS2 := Lib.hid hS2
      have hsz : w.heap.size + 1 ≤ wr.heap.size := (Array.getElem?_eq_some_iff.1 HQ1.out).1
      obtain ⟨B, hB⟩ : ∃ B, w.heap.size + 1 = B := ⟨_, rfl⟩
      rw [hB] at hsz
      have HB := Lib.hid hB
      clear hB
      clear hlt hk HSS hS2
      go_wp2_with ((with_reducible show wpList _ _ _ (⟨some 23, _, _, _, _, _⟩ :: _) _ _); refine wpList_make_row rfl _ _ rfl B .i64 .i64 _ S rfl rfl rfl hSm hsz ?_; intro v1 w2 hr2 hs2)
      have HR2 : Hid (Row8 B w2 v1 (keyText (ps.take 0))) := Lib.hid hr2
      have HS2 := Lib.hid (HS1.out.trans hs2)
      have HQ2 := Lib.hid (hs2.heap HQ1.out (fun h => h))
      clear hr2 hs2 HS1 HQ1 hsz
      go_loopw [6, 26] (fun v i wr => ∃ j : Nat, j ≤ k ∧ i = .int .i64 j ∧ Hid (Row8 B wr v (keyText (ps.take j))) ∧ Hid (Spares nowhere w wr) ∧ Hid (wr.heap[w.heap.size]? = some (.cells (bytesV (List.replicate 32 0)) 25 (0, 0)))) (fun _ i _ => k - (intOf i).toNat)
      case atStart => exact ⟨0, by omega, rfl, HR2, HS2, HQ2⟩
      clear HR2 HS2 HQ2
      case round =>
        obtain ⟨j, hj, rfl, HR1, HS1, HQ1⟩ := hrel
        by_cases hlt : j < k
        · have hk2 : j < ps.length := by have := HN.out; omega
          obtain ⟨b, off, rfl, hc⟩ := (HL.out.spares HS1.out (fun _ _ _ h => h)) j hk2
          obtain ⟨p, hp⟩ : ∃ p, ps[j] = p := ⟨_, rfl⟩
          rw [hp] at hc
          have hnx := keyText_take ps j hk2
          rw [hp] at hnx
          obtain ⟨z, hz⟩ : ∃ z, p.size = z := ⟨_, rfl⟩
          rw [hz] at hnx
          have hle := Nat.le_trans (keyText_le ps (j + 1)) HM.out
          rw [hnx, List.length_append, List.length_append, toList_size, hz] at hle
          obtain ⟨D, hD⟩ : ∃ D, keyText (ps.take j) = D := ⟨_, rfl⟩
          rw [hD] at hnx hle HR1
          have hb4 : (be4 z).length = 4 := rfl
          obtain ⟨X, hX⟩ : ∃ X, UInt32.ofNat z = X := ⟨_, rfl⟩
          have hbe : be4 z = [byW X 0, byW X 1, byW X 2, byW X 3] := by rw [be4, hX]
          have hcv : IntKind.u32.wrap (z : Int) = (X.toNat : Int) := by rw [← hX, u32_ofNat, IntKind.wrap_u32]; omega
          have hcv2 : (z : Int) % 4294967296 = (X.toNat : Int) := by rw [← hcv, IntKind.wrap_u32]
          have hal := heap_alloc_new wr (.cells (bytesV [0, 0, 0, 0]) 60)
          have HP := Lib.hid (putWord_any X wr.heap.size 0 4 4 _ _ _ (by omega) hal (by rw [bytesV_size]; simp))
          have hg5 := put4_heap hal 0 X
          have h4 : set4 (bytesV [0, 0, 0, 0]) 0 X = bytesV [byW X 0, byW X 1, byW X 2, byW X 3] := set4_bytes [] [] 0 0 0 0 X
          rw [h4] at hg5
          have hs5 : Spares nowhere wr (put4 (wr.alloc (.cells (bytesV [0, 0, 0, 0]) 60)) wr.heap.size 0 X) := ((Spares.refl _ _).alloc _).trans' (put4_spares _ _ _ _) (fun b hb => .inr (Nat.le_of_eq hb.symm))
          have hB1 : B ≤ wr.heap.size := by rw [← HB.out]; exact (Array.getElem?_eq_some_iff.1 HQ1.out).1
          obtain ⟨w5, hw5⟩ : ∃ w5, put4 (wr.alloc (.cells (bytesV [0, 0, 0, 0]) 60)) wr.heap.size 0 X = w5 := ⟨_, rfl⟩
          rw [hw5] at hg5 hs5 HP
          obtain ⟨g, hgg⟩ : ∃ g, wr.heap.size = g := ⟨_, rfl⟩
          rw [hgg] at hg5 HP
          have HB5 : Hid (BytesAt w5 (some ⟨g, 0, none⟩) (be4 z)) := Lib.hid (by rw [hbe]; exact bytesV_at hg5)
          have HR5 := Lib.hid (HR1.out.spares hs5 (fun _ _ h => h))
          have HS5 := Lib.hid (HS1.out.trans hs5)
          have HQ5 := Lib.hid (hs5.heap HQ1.out (fun h => h))
          have hB5 : B ≤ w5.heap.size := Nat.le_trans hB1 hs5.size
          have hl1 : D.length + 4 ≤ 140737488355328 := by omega
          have hl2 : (D ++ be4 z).length + p.size ≤ 140737488355328 := by rw [List.length_append, hz]; omega
          have HNX := Lib.hid hnx
          have HD := Lib.hid hD
          have HL1 := Lib.hid hl1
          have HL2 := Lib.hid hl2
          have hsl := slice_four g
          have i1 : (j : Int) < (k : Int) := by omega
          have i2 : (z : Int) ≤ 140737488355328 := by omega
          clear hp hnx hle hD hb4 hX hbe h4 hal hg5 hs5 hB1 hw5 hl1 hl2 hk2 HR1 HS1 HQ1
          go_wp2_with fail
          refine HP.out.mono ?_
          rintro e w5' ⟨rfl, rfl⟩
          go_wp2_with (first
            | ((with_reducible show wpList _ _ _ (⟨some 37, _, _, _, _, _⟩ :: _) _ _); refine wpList_row_bytes rfl _ _ rfl B _ D rfl HR5.out (some ⟨g, 0, none⟩) 4 4 (be4 z) rfl rfl HB5.out (fun e => by cases e) HL1.out hB5 ?_; intro v6 w6 hr6 hs6; have hB6 := Nat.le_trans hB5 hs6.size; have HR6 := Lib.hid hr6; have HS6 := Lib.hid hs6; clear hr6 hs6)
            | ((with_reducible show wpList _ _ _ (⟨some 40, _, _, _, _, _⟩ :: _) _ _); refine wpList_row_str rfl _ _ rfl B v6 _ rfl HR6.out p rfl HL2.out hB6 ?_; intro v7 w7 hr7 hs7; have HR7 := Lib.hid hr7; have HS7 := Lib.hid hs7; clear hr7 hs7))
          go_roundw
          case rel =>
            refine ⟨j + 1, by omega, by go_num, ?_, ?_, ?_⟩
            · rw [HNX.out]; exact HR7
            · exact Lib.hid ((HS5.out.trans' HS6.out (fun b hb => .inr (by have := HB.out; unfold atLeast at hb; omega))).trans' HS7.out (fun b hb => .inr (by have := HB.out; unfold atLeast at hb; omega)))
            · exact Lib.hid (HS7.out.heap (HS6.out.heap HQ5.out (fun h => by have := HB.out; unfold atLeast at h; omega)) (fun h => by have := HB.out; unfold atLeast at h; omega))
          case measure => simp [intOf]; omega
        · obtain rfl : j = k := by omega
          have htk : ps.take j = ps := List.take_of_length_le (by have := HN.out; omega)
          rw [htk] at HR1
          obtain ⟨a7, c7, rfl, hat, _, hc7⟩ := HR1.out.shape
          have HSUM := Lib.hid (sum_any a7 (keyText ps).length c7 (keyText ps) wr hat rfl HM.out hc7)
          clear htk hat hc7 HR1
          go_wp2_with fail
          refine HSUM.out.mono ?_
          rintro e w8 ⟨rfl, hs8⟩
          have HS8 := Lib.hid (HS1.out.trans hs8)
          have hq8 := hs8.heap HQ1.out (fun h => h)
          obtain ⟨R, hR⟩ : ∃ R, shaF (keyText ps) = R := ⟨_, rfl⟩
          have hRl : R.length = 32 := by rw [← hR]; unfold shaF; rw [← outK_all, outK_len 8 (by omega)]
          rw [hR]
          have htq : w8.there w.heap.size 0 (bytesV R).size := there_of hq8 0 _ (by rw [bytesV_size, bytesV_size, hRl]; simp)
          have hgq : (w8.setCells w.heap.size 0 (Lib.byteCells R)).heap[w.heap.size]? = some (.cells (bytesV R) 25 (0, 0)) := by
            have := heap_setCells (g := w.heap.size) (t := 25) (Lib.byteCells R) [] (Lib.byteCells (List.replicate 32 0)) [] w8 (by rw [List.append_nil]; exact hq8) (by rw [byteCells_len, byteCells_len, hRl]; simp)
            rw [List.append_nil] at this
            exact this
          have HT := Lib.hid htq
          have HGQ := Lib.hid hgq
          have infoC : (Try.prog.info? 25).map (·.size) = some (bytesV R).size := by rw [bytesV_size, hRl]; exact infoKey
          have HI2 := Lib.hid infoC
          have HRR := Lib.hid hR
          clear htq hgq infoC hq8 hs8 hR hRl HSUM
          go_wp2_with ((with_reducible show wpList _ _ _ (⟨none, .store 25 _ _, _, _, _, _⟩ :: _) _ _); refine wpList_store_mid rfl 25 (.tmp 2) (.tmp 43) rfl w.heap.size 0 (bytesV R) rfl rfl HT.out HI2.out (bytesV_one _) ?_)
          rw [HRR.out]
          exact bodyPost_ret (v := .agg (bytesV R)) (results_cell_row rfl _ _ w.heap.size 25 (bytesV R) (0, 0) _ rfl HGQ.out Try.underlying25 (by rfl) HI2.out) rfl ⟨rfl, HS8.out.trans' (F' := fun b => b = w.heap.size) (spares_setCells _ _ _ (Spares.refl _ _)) (fun b hb => .inr (Nat.le_of_eq hb.symm))⟩
end Go.Proofs.Ytfejnjgdgdhckaa
