/-
  The laws' first test: FIPS 180-4's example.
-/
import Derived.Test.YtfejnjgdgdhckaaShaRefKey
import Derived.Lib.SlBytesConst
import Derived.Test.YtfejnjgdgdhckaaKeyEq
namespace Go.Proofs.Ytfejnjgdgdhckaa
open Go.RowKit

theorem keys_apart : shaF (keyText [⟨#[97]⟩, ⟨#[98]⟩]) ≠ shaF (keyText [⟨#[97, 98]⟩]) := by decide +kernel
theorem abc_first : (shaF [97, 98, 99]).getD 0 0 = 186 ∧ (shaF [97, 98, 99]).getD 31 0 = 173 := by rw [sha_abc]; decide
theorem shaF_len (l : List UInt8) : (shaF l).length = 32 := by unfold shaF; rw [← outK_all, outK_len 8 (by omega)]
theorem bytes_new (w : World) (l : List UInt8) (cs : Array Value) (h : cs = bytesV l) : BytesAt (w.alloc (.cells cs 5)) (some ⟨w.heap.size, 0, none⟩) l := by
  subst h; exact bytesV_at (heap_alloc_new w _)
theorem abc_at (w : World) : BytesAt (w.alloc (.cells (bytesV [97, 98, 99]) 5 (3, 4))) (some ⟨w.heap.size, 0, none⟩) [97, 98, 99] := by
  intro k hk
  refine ⟨w.heap.size, 0, rfl, ?_⟩
  have h := heap_alloc_new w (.cells (bytesV [97, 98, 99]) 5 (3, 4))
  have e := bytesV_get [97, 98, 99] k hk
  rw [List.getD_eq_getElem?_getD, List.getElem?_eq_getElem hk] at e
  rw [Nat.zero_add]
  simp only [World.cell?, h]
  exact e
theorem strs_new (w : World) (ps : List ByteArray) : StrsAt (w.alloc (.cells (ps.map Value.string).toArray 9)) (some ⟨w.heap.size, 0, none⟩) ps := by
  intro k hk
  refine ⟨w.heap.size, 0, rfl, ?_⟩
  have h := heap_alloc_new w (.cells (ps.map Value.string).toArray 9)
  rw [Nat.zero_add, Lib.cell_of_heap h, List.getElem?_toArray, List.getElem?_map, List.getElem?_eq_getElem hk]
  rfl
set_option maxRecDepth 100000 in
set_option maxHeartbeats 1000000 in
theorem known_any (w : World) : Calls Try.prog 7 #[] w fun e w' => e = .returned (.bool true) ∧ Spares nowhere w w' := by
  have HS := Lib.hid (sum_any (some ⟨w.heap.size, 0, none⟩) 3 3 [97, 98, 99] (w.alloc (.cells (bytesV [97, 98, 99]) 5 (3, 4))) (abc_at w) rfl (by omega) (by omega))
  have HS1 := Lib.hid ((Spares.refl nowhere w).alloc (.cells (bytesV [97, 98, 99]) 5 (3, 4)))
  have hcs := Lib.run_convert_bytes_const (P := Try.prog) w 22 5 #[.int .u8 97, .int .u8 98, .int .u8 99] 3 3 Try.underlying22 Try.underlying5
  go_enter Try.func7, Try.ntmps7
  go_wp2_with fail
  refine HS.out.mono ?_
  rintro e w2 ⟨rfl, hs2⟩
  have HS2 := Lib.hid (HS1.out.trans hs2)
  obtain ⟨R, hR⟩ : ∃ R, shaF [97, 98, 99] = R := ⟨_, rfl⟩
  rw [hR]
  have hRl : R.length = 32 := by rw [← hR, shaF_len]
  have hf := abc_first
  rw [hR] at hf
  have hal := heap_alloc_new w2 (.cells (bytesV (List.replicate 32 0)) 25)
  have hgq : ((w2.alloc (.cells (bytesV (List.replicate 32 0)) 25)).setCells w2.heap.size 0 (Lib.byteCells R)).heap[w2.heap.size]? = some (.cells (bytesV R) 25 (0, 0)) := by
    have := heap_setCells (g := w2.heap.size) (t := 25) (Lib.byteCells R) [] (Lib.byteCells (List.replicate 32 0)) [] _ (by rw [List.append_nil]; exact hal) (by rw [byteCells_len, byteCells_len, hRl]; simp)
    rw [List.append_nil] at this
    exact this
  have htq := there_of hal 0 (bytesV R).size (by rw [bytesV_size, bytesV_size, hRl]; simp)
  have infoC : (Try.prog.info? 25).map (·.size) = some (bytesV R).size := by rw [bytesV_size, hRl]; exact infoKey
  obtain ⟨w3, hw3⟩ : ∃ w3, (w2.alloc (.cells (bytesV (List.replicate 32 0)) 25)).setCells w2.heap.size 0 (Lib.byteCells R) = w3 := ⟨_, rfl⟩
  have HW3 := Lib.hid hw3
  have HGQ := Lib.hid hgq
  have HTQ := Lib.hid htq
  have HI := Lib.hid infoC
  clear hal hgq htq infoC hw3 hR hs2
  go_upto_region 2 with ((with_reducible show wpList _ _ _ (⟨none, .store 25 _ _, _, _, _, _⟩ :: _) _ _); refine wpList_store_mid rfl 25 (.tmp 1) (.tmp 4) rfl w2.heap.size 0 (bytesV R) rfl rfl HTQ.out HI.out (bytesV_one _) ?_)
  change Code.wp _ _ _ _ ((w2.alloc (.cells (bytesV (List.replicate 32 0)) 25)).setCells w2.heap.size 0 (Lib.byteCells R))
  rw [HW3.out]
  rw [HW3.out] at HGQ
  obtain ⟨q, hq⟩ : ∃ q, w2.heap.size = q := ⟨_, rfl⟩
  rw [hq]
  rw [hq] at HGQ
  have c0 : w3.cell? ⟨q, 0, none⟩ = some (.int .u8 186) := by rw [Lib.cell_of_heap HGQ.out, bytesV_get R 0 (by omega), hf.1]; rfl
  have c31 : w3.cell? ⟨q, 31, none⟩ = some (.int .u8 173) := by rw [Lib.cell_of_heap HGQ.out, bytesV_get R 31 (by omega), hf.2]; rfl
  have HS3 : Hid (Spares nowhere w w3) := Lib.hid (by rw [← HW3.out]; exact HS2.out.trans' (((Spares.refl nowhere w2).alloc _).trans' (spares_setCells (g := w2.heap.size) _ _ _ (Spares.refl _ _)) (fun b hb => .inr (Nat.le_of_eq hb.symm))) (fun b hb => .inl hb))
  clear HW3 HTQ HI HS HS1 HS2 hf
  have HK1 := Lib.hid (key_any (some ⟨w3.heap.size, 0, none⟩) 2 2 [⟨#[97]⟩, ⟨#[98]⟩] (w3.alloc (.cells #[.string ⟨#[97]⟩, .string ⟨#[98]⟩] 9)) (strs_new w3 [⟨#[97]⟩, ⟨#[98]⟩]) rfl (by decide) (by omega))
  have HS3a := Lib.hid (HS3.out.alloc (.cells #[.string ⟨#[97]⟩, .string ⟨#[98]⟩] 9))
  have hap := keys_apart
  obtain ⟨X, hX⟩ : ∃ X, shaF (keyText [⟨#[97]⟩, ⟨#[98]⟩]) = X := ⟨_, rfl⟩
  obtain ⟨Y, hY⟩ : ∃ Y, shaF (keyText [⟨#[97, 98]⟩]) = Y := ⟨_, rfl⟩
  have HX := Lib.hid hX
  have HY := Lib.hid hY
  rw [hX, hY] at hap
  have hke := key_equal X Y (by rw [← hX, shaF_len]) (by rw [← hY, shaF_len])
  rw [decide_eq_false hap] at hke
  clear hX hY
  have HAP := Lib.hid hap
  clear hap
  go_wp2_with fail
  refine HK1.out.mono ?_
  rintro e w4 ⟨rfl, hs4⟩
  rw [HX.out]
  have HS4 := Lib.hid (HS3a.out.trans hs4)
  have HK2 := Lib.hid (key_any (some ⟨w4.heap.size, 0, none⟩) 1 1 [⟨#[97, 98]⟩] (w4.alloc (.cells #[.string ⟨#[97, 98]⟩] 9)) (strs_new w4 [⟨#[97, 98]⟩]) rfl (by decide) (by omega))
  have HS4a := Lib.hid (HS4.out.alloc (.cells #[.string ⟨#[97, 98]⟩] 9))
  go_wp2_with fail
  refine HK2.out.mono ?_
  rintro e w5 ⟨rfl, hs5⟩
  rw [HY.out]
  have HS5 := Lib.hid (HS4a.out.trans hs5)
  clear hs4 hs5
  go_wp2
  go_ret
  exact ⟨rfl, HS5.out⟩
end Go.Proofs.Ytfejnjgdgdhckaa
