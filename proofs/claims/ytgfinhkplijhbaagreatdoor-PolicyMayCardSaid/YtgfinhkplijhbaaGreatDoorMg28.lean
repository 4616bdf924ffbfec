/-
  The reference's Key is the same sum of the parts.
-/
import Derived.Deep.RegionHeld3
import Derived.Test.YtgfinhkplijhbaaGreatDoorMg16
import Derived.Test.YtgfinhkplijhbaaGreatDoorMg17
namespace Go.Proofs.YtgfinhkplijhbaaGreatDoor
open Go.RowKit

theorem be4_beN (z : Nat) (h : z < 4294967296) : be4 z = beN 4 z := by
  rw [beN_four]
  unfold be4 byW
  rw [u32_ofNat, Nat.mod_eq_of_lt h]
set_option maxRecDepth 100000 in
set_option maxHeartbeats 1000000 in
theorem refKey_any (a : Option Addr) (n c : Nat) (ps : List ByteArray) (w : World) (hl : StrsAt w a ps) (hn : n = ps.length) (hmax : (keyText ps).length ≤ 4294967295) (hn63 : n < 9223372036854775808) :
    Calls Tryz.prog 43 #[.slice a n c] w fun e w' => e = .returned (.agg (bytesV (shaF (keyText ps)))) ∧ Spares nowhere w w' := by
  have HL := Lib.hid hl
  have HN := Lib.hid hn
  have HM := Lib.hid hmax
  have HS1 := Lib.hid ((Spares.refl nowhere w).alloc (.cells (bytesV (List.replicate 32 0)) 41))
  have HQ1 := Lib.hid (heap_alloc_new w (.cells (bytesV (List.replicate 32 0)) 41))
  clear hl hn hmax
  obtain ⟨B, hB⟩ : ∃ B, w.heap.size + 1 = B := ⟨_, rfl⟩
  have HB := Lib.hid hB
  have HR1 : Hid (Row8 B (w.alloc (.cells (bytesV (List.replicate 32 0)) 41)) (.slice none 0 0) (keyText (ps.take 0))) := Lib.hid (row8_nil _ _)
  clear hB
  go_enter Tryz.func43, Tryz.ntmps43
  go_wp2
  go_loopw [3, 4] (fun v i wr => ∃ k : Nat, k ≤ n ∧ i = .int .i64 k ∧ Hid (Row8 B wr v (keyText (ps.take k))) ∧ Hid (Spares nowhere w wr) ∧ Hid (wr.heap[w.heap.size]? = some (.cells (bytesV (List.replicate 32 0)) 41 (0, 0)))) (fun _ i _ => n - (intOf i).toNat)
  case atStart => exact ⟨0, by omega, rfl, HR1, HS1, HQ1⟩
  clear HR1 HS1 HQ1
  case round =>
    obtain ⟨k, hk, rfl, HR1, HS1, HQ1⟩ := hrel
    by_cases hlt : k < n
    · have hk2 : k < ps.length := by have := HN.out; omega
      obtain ⟨b, off, rfl, hc⟩ := (HL.out.spares HS1.out (fun _ _ _ h => h)) k hk2
      have hbw : b < w.heap.size := by
        obtain ⟨b', off', he, hc'⟩ := HL.out k hk2
        cases he
        rcases Nat.lt_or_ge b w.heap.size with h | h
        · exact h
        · simp [World.cell?, Array.getElem?_eq_none h] at hc'
      obtain ⟨p, hp⟩ : ∃ p, ps[k] = p := ⟨_, rfl⟩
      rw [hp] at hc
      have hnx := keyText_take ps k hk2
      rw [hp] at hnx
      have hle := Nat.le_trans (keyText_le ps (k + 1)) HM.out
      obtain ⟨z, hz⟩ : ∃ z, p.size = z := ⟨_, rfl⟩
      rw [hz] at hnx
      rw [hnx, List.length_append, List.length_append, toList_size, hz] at hle
      obtain ⟨D, hD⟩ : ∃ D, keyText (ps.take k) = D := ⟨_, rfl⟩
      rw [hD] at hnx hle HR1
      have hbb : (be4 z).length = 4 := rfl
      have hbe : be4 z = beN 4 z := be4_beN z (by omega)
      rw [hbe] at hnx
      have hB1 : B ≤ wr.heap.size := by rw [← HB.out]; exact (Array.getElem?_eq_some_iff.1 HQ1.out).1
      have hcv : IntKind.u64.wrap (z : Int) = (z : Int) := by rw [IntKind.wrap_u64]; omega
      have hs5 : Spares nowhere wr wr.drew := (Spares.refl _ wr).drew
      have hc5 : wr.drew.cell? ⟨b, off + k, none⟩ = some (.string p) := hc
      have hB5 : B ≤ wr.drew.heap.size := Nat.le_trans hB1 hs5.size
      have HP := Lib.hid (put_any B _ D z 4 wr.drew (HR1.out.spares hs5 (fun _ _ h => h)) hB5 (by omega) (by omega))
      have hbB : ¬ atLeast B b := fun h => by have := HB.out; unfold atLeast at h; omega
      have hb5 : b < wr.drew.heap.size := Nat.lt_of_lt_of_le hbw (Nat.le_trans HS1.out.size hs5.size)
      have hlen : (D ++ beN 4 z).length + p.size ≤ 140737488355328 := by rw [List.length_append, beN_len, hz]; omega
      have HNX := Lib.hid hnx
      have HS5 := Lib.hid (HS1.out.trans hs5)
      have HQ5 := Lib.hid (hs5.heap HQ1.out (fun h => h))
      have HLEN := Lib.hid hlen
      have HBB := Lib.hid hbB
      have i1 : (k : Int) < (n : Int) := by omega
      have i2 : (z : Int) ≤ 4294967295 := by omega
      clear hp hnx hle hD hbb hbe hB1 hlen hbB hs5 HS1 HQ1 HR1
      go_upto_region 5 with (fail)
      go_region_held3 (fun w' => w'.cell? ⟨b, off + k, none⟩ = some (.string p))
        (first
          | assumption
          | exact (hs9.cell (p := ⟨b, off + k, none⟩) hb5 HBB.out).trans hc5
          | exact (hs10.cell (p := ⟨b, off + k, none⟩) (Nat.lt_of_lt_of_le hb5 hs9.size) HBB.out).trans ((hs9.cell (p := ⟨b, off + k, none⟩) hb5 HBB.out).trans hc5)
          | fail)
        (first
          | (go_at_call 67; refine HP.out.mono ?_; rintro e w9 ⟨v9, rfl, hr9, hs9⟩)
          | (refine step_row_str (by rfl) (.tmp 18) (.tmp 22) (by rfl) B _ _ (by rfl) hr9 p (by rfl) HLEN.out (Nat.le_trans hB5 hs9.size) ?_; intro v10 w10 hr10 hs10)
          | fail)
      have HR10 : Hid (Row8 B w10 v10 (keyText (ps.take (k + 1)))) := Lib.hid (by rw [HNX.out]; exact hr10)
      have HS10 : Hid (Spares nowhere w w10) := Lib.hid ((HS5.out.trans' hs9 (fun b hb => .inr (by have := HB.out; unfold atLeast at hb; omega))).trans' hs10 (fun b hb => .inr (by have := HB.out; unfold atLeast at hb; omega)))
      have HQ10 := Lib.hid (hs10.heap (hs9.heap HQ5.out (fun h => by have := HB.out; unfold atLeast at h; omega)) (fun h => by have := HB.out; unfold atLeast at h; omega))
      clear hr9 hs9 hr10 hs10
      go_wp2
      go_roundw
      case rel => exact ⟨k + 1, by omega, by go_num, HR10, HS10, HQ10⟩
      case measure => simp [intOf]; omega
    · obtain rfl : k = n := by omega
      have htk : ps.take k = ps := List.take_of_length_le (by have := HN.out; omega)
      rw [htk] at HR1
      obtain ⟨a7, c7, rfl, hat, hnl, hc7⟩ := HR1.out.shape
      have HSUM := Lib.hid (refSum_any a7 (keyText ps).length c7 (keyText ps) wr hat rfl (Nat.le_trans HM.out (by decide)) hnl)
      clear htk hat hc7 HR1 hnl
      go_wp2_with fail
      refine HSUM.out.mono ?_
      rintro e w8 ⟨rfl, hs8⟩
      have HS8 := Lib.hid (HS1.out.trans hs8)
      have hq8 := hs8.heap HQ1.out (fun h => h)
      obtain ⟨R, hR⟩ : ∃ R, shaF (keyText ps) = R := ⟨_, rfl⟩
      have hRl : R.length = 32 := by rw [← hR]; unfold shaF; rw [← outK_all, outK_len 8 (by omega)]
      rw [hR]
      have htq : w8.there w.heap.size 0 (bytesV R).size := there_of hq8 0 _ (by rw [bytesV_size, bytesV_size, hRl]; simp)
      have hgq : (w8.setCells w.heap.size 0 (Lib.byteCells R)).heap[w.heap.size]? = some (.cells (bytesV R) 41 (0, 0)) := by
        have := heap_setCells (g := w.heap.size) (t := 41) (Lib.byteCells R) [] (Lib.byteCells (List.replicate 32 0)) [] w8 (by rw [List.append_nil]; exact hq8) (by rw [byteCells_len, byteCells_len, hRl]; simp)
        rw [List.append_nil] at this
        exact this
      have HT := Lib.hid htq
      have HGQ := Lib.hid hgq
      have infoC : (Tryz.prog.info? 41).map (·.size) = some (bytesV R).size := by rw [bytesV_size, hRl]; exact infoKey
      have HI2 := Lib.hid infoC
      have HRR := Lib.hid hR
      clear htq hgq infoC hq8 hs8 hR hRl HSUM
      go_wp2_with ((with_reducible show wpList _ _ _ (⟨none, .store 41 _ _, _, _, _, _⟩ :: _) _ _); refine wpList_store_mid rfl 41 (.tmp 2) (.tmp 25) rfl w.heap.size 0 (bytesV R) rfl rfl HT.out HI2.out (bytesV_one _) ?_)
      rw [HRR.out]
      exact bodyPost_ret (v := .agg (bytesV R)) (results_cell_row rfl _ _ w.heap.size 41 (bytesV R) (0, 0) _ rfl HGQ.out Tryz.underlying41 (by rfl) HI2.out) rfl ⟨rfl, HS8.out.trans' (F' := fun b => b = w.heap.size) (spares_setCells _ _ _ (Spares.refl _ _)) (fun b hb => .inr (Nat.le_of_eq hb.symm))⟩
end Go.Proofs.YtgfinhkplijhbaaGreatDoor
