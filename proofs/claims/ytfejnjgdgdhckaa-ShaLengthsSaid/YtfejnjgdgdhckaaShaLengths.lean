/-
  ShaLengths: texts of each length about a block's end are summed rightly.
-/
import Derived.Test.YtfejnjgdgdhckaaShaAgain
namespace Go.Proofs.Ytfejnjgdgdhckaa
open Go.RowKit

theorem u8_byte {x : Int} (h : (Lit.int .u8 x).wf = true) : ∃ X : UInt8, x = (X.toNat : Int) := by
  obtain ⟨j, hj, rfl⟩ := u8_nat h
  exact ⟨UInt8.ofNat j, by rw [UInt8.toNat_ofNat', Nat.mod_eq_of_lt hj]⟩
set_option maxRecDepth 100000 in
set_option maxHeartbeats 1000000 in
theorem lengths_any (n : Nat) (x : UInt8) (w : World) (hn : n < 256) :
    Calls Try.prog 6 #[.int .u8 n, .int .u8 x.toNat] w fun e w' => e = .returned (.bool true) ∧ Spares nowhere w w' := by
  have HK := Lib.hid (known_any w)
  obtain ⟨M, hM⟩ : ∃ M : Nat, n + 40 = M := ⟨_, rfl⟩
  have hMi : (n : Int) + 40 = (M : Int) := by omega
  obtain ⟨M1, hM1⟩ : ∃ M1 : Nat, M - 1 = M1 := ⟨_, rfl⟩
  have hM1i : (M : Int) - 1 = (M1 : Int) := by omega
  have hMb : 40 ≤ M ∧ M < 300 ∧ M1 + 1 = M := by omega
  have HMB := Lib.hid hMb
  have m1 : (M1 : Int) ≤ (M : Int) := by omega
  have m2 : (0 : Int) < (M : Int) := by omega
  have m3 : (M : Int) < 300 := by omega
  have m4 : ¬ (M = 0) := by omega
  clear hM hM1
  go_enter Try.func6, Try.ntmps6
  go_wp2_with fail
  refine HK.out.mono ?_
  rintro e w1 ⟨rfl, hs1⟩
  have hmk := make_bytes M (by omega) w1
  have hal := heap_alloc_new w1 (.cells (bytesV (List.replicate M 0)) 5)
  obtain ⟨q, hq⟩ : ∃ q, w1.heap.size = q := ⟨_, rfl⟩
  obtain ⟨w2, hw2⟩ : ∃ w2, w1.alloc (.cells (bytesV (List.replicate M 0)) 5) = w2 := ⟨_, rfl⟩
  rw [hq, hw2] at hmk hal
  have HS2 : Hid (Spares nowhere w w2) := Lib.hid (by rw [← hw2]; exact hs1.alloc _)
  have HG2 : Hid (w2.heap[q]? = some (.cells (bytesV (List.replicate 0 x ++ List.replicate (M - 0) 0)) 5 (0, 0))) := Lib.hid hal
  have HQ : Hid (w.heap.size ≤ q) := Lib.hid (by rw [← hq]; exact hs1.size)
  clear hs1 hal hq hw2 HK
  go_wp2
  go_loopw [6] (fun i wr => ∃ k : Nat, k ≤ M ∧ i = .int .i64 k ∧ Hid (wr.heap[q]? = some (.cells (bytesV (List.replicate k x ++ List.replicate (M - k) 0)) 5 (0, 0))) ∧ Hid (Spares nowhere w wr)) (fun i _ => M - (intOf i).toNat)
  case atStart => exact ⟨0, by omega, rfl, HG2, HS2⟩
  clear HG2 HS2 hmk
  case round =>
    obtain ⟨k, hk, rfl, HG, HS⟩ := hrel
    by_cases hlt : k < M
    · have i1 : (k : Int) < (M : Int) := by omega
      have c0 : wr.cell? ⟨q, k, none⟩ = some (.int .u8 0) := by
        rw [Lib.cell_of_heap HG.out, bytesV_get _ _ (by rw [List.length_append, List.length_replicate, List.length_replicate]; omega), List.getD_eq_getElem?_getD, List.getElem?_append_right (by rw [List.length_replicate]; omega), List.getElem?_replicate, if_pos (by rw [List.length_replicate]; omega)]
        rfl
      have hfz : wr.frozen? ⟨q, k, none⟩ = false := heap_frozen HG.out k
      go_wp2
      go_roundw
      case rel =>
        refine ⟨k + 1, by omega, by go_num, Lib.hid ?_, Lib.hid (HS.out.setCell (p := ⟨q, k, none⟩) (.inr HQ.out) _)⟩
        refine (heap_set HG.out k _).trans ?_
        have hb := bytesV_set (List.replicate k x) (List.replicate (M - (k + 1)) 0) 0 x
        rw [List.length_replicate] at hb
        rw [show M - k = (M - (k + 1)) + 1 by omega, List.replicate_succ, List.replicate_succ', List.append_assoc]
        exact congrArg (fun r => some (Obj.cells r 5 (0, 0))) hb
      case measure => simp [intOf]; omega
    · obtain rfl : k = M := by omega
      obtain ⟨L, hL⟩ : ∃ L : List UInt8, List.replicate k x = L := ⟨_, rfl⟩
      have hLl : L.length = k := by rw [← hL, List.length_replicate]
      have hg : wr.heap[q]? = some (.cells (bytesV L) 5 (0, 0)) := by
        have := HG.out
        rw [Nat.sub_self, List.replicate_zero, List.append_nil, hL] at this
        exact this
      have HKEEP : Hid (∀ W, Spares nowhere wr W → BytesAt W (some ⟨q, 0, none⟩) L) := Lib.hid (fun W h => (bytesV_at hg).spares h (fun _ _ _ h => h))
      obtain ⟨L1, hL1⟩ : ∃ L1, L.take M1 = L1 := ⟨_, rfl⟩
      have hL1l : L1.length = M1 := by rw [← hL1, List.length_take]; have := HMB.out; omega
      have HKEEP1 : Hid (∀ W, Spares nowhere wr W → BytesAt W (some ⟨q, 0, none⟩) L1) := Lib.hid (fun W h => by rw [← hL1]; exact bytesAt_take M1 (HKEEP.out W h))
      obtain ⟨X, hX⟩ : ∃ X, shaF L = X := ⟨_, rfl⟩
      obtain ⟨Y, hY⟩ : ∃ Y, shaF L1 = Y := ⟨_, rfl⟩
      have k1 := key_self X (by rw [← hX, shaF_len])
      have k2 := key_self Y (by rw [← hY, shaF_len])
      have hA : ∀ W, Spares nowhere wr W → Calls Try.prog 8 #[.slice (some ⟨q, 0, none⟩) k k] W fun e w' => e = .returned (.agg (bytesV X)) ∧ Spares nowhere W w' := fun W h => by
        rw [← hX]; exact sum_any _ k k L W (HKEEP.out W h) hLl.symm (by have := HMB.out; omega) (Nat.le_refl _)
      have hB : ∀ W, Spares nowhere wr W → Calls Try.prog 9 #[.slice (some ⟨q, 0, none⟩) k k] W fun e w' => e = .returned (.agg (bytesV X)) ∧ Spares nowhere W w' := fun W h => by
        rw [← hX]; exact refSum_any _ k k L W (HKEEP.out W h) hLl.symm (by have := HMB.out; omega) (fun e => by cases e)
      have hC : ∀ W, Spares nowhere wr W → Calls Try.prog 8 #[.slice (some ⟨q, 0, none⟩) M1 k] W fun e w' => e = .returned (.agg (bytesV Y)) ∧ Spares nowhere W w' := fun W h => by
        rw [← hY]; exact sum_any _ M1 k L1 W (HKEEP1.out W h) hL1l.symm (by have := HMB.out; omega) (by have := HMB.out; omega)
      have hD : ∀ W, Spares nowhere wr W → Calls Try.prog 9 #[.slice (some ⟨q, 0, none⟩) M1 k] W fun e w' => e = .returned (.agg (bytesV Y)) ∧ Spares nowhere W w' := fun W h => by
        rw [← hY]; exact refSum_any _ M1 k L1 W (HKEEP1.out W h) hL1l.symm (by have := HMB.out; omega) (fun e => by cases e)
      have HA := Lib.hid hA
      have HB := Lib.hid hB
      have HC := Lib.hid hC
      have HD := Lib.hid hD
      clear hA hB hC hD hL hLl hg hL1 hL1l hX hY HG hk hlt
      go_upto_region 8 with (fail)
      have wm : IntKind.i64.wrap (M1 : Int) = (M1 : Int) := by rw [IntKind.wrap_i64]; omega
      refine wp_region_quiet (C := fun W => Spares nowhere wr W) (by kernel_rfl) (by kernel_rfl) (Spares.refl nowhere wr).drew ?_
      refine wpQuiet_step (fun K hK => ?_)
      refine quiet_if (.slice (some ⟨q, 0, none⟩) k k) (by rfl) (fun W hW => ?_) ?_
      · exact ⟨rfl, rfl⟩
      go_simp
      refine hK _ ?_
      clear hK K
      refine wpQuiet_step (fun K hK => ?_)
      refine quiet_if (.agg (bytesV X)) (by rfl) (fun W hW => ?_) ?_
      · go_simp
        refine (HA.out W hW).mono ?_
        rintro e W' ⟨rfl, h⟩
        exact ⟨rfl, hW.trans h⟩
      go_simp
      refine hK _ ?_
      clear hK K
      refine wpQuiet_step (fun K hK => ?_)
      refine quiet_if (.slice (some ⟨q, 0, none⟩) k k) (by rfl) (fun W hW => ?_) ?_
      · exact ⟨rfl, rfl⟩
      go_simp
      refine hK _ ?_
      clear hK K
      refine wpQuiet_step (fun K hK => ?_)
      refine quiet_if (.agg (bytesV X)) (by rfl) (fun W hW => ?_) ?_
      · go_simp
        refine (HB.out W hW).mono ?_
        rintro e W' ⟨rfl, h⟩
        exact ⟨rfl, hW.trans h⟩
      go_simp
      refine hK _ ?_
      clear hK K
      refine wpQuiet_step (fun K hK => ?_)
      refine quiet_if (.bool true) (by rfl) (fun W hW => ?_) ?_
      · have h1 := k1 W
        go_simp
      go_simp
      refine hK _ ?_
      clear hK K
      refine wpQuiet_step (fun K hK => ?_)
      refine quiet_if (.bool true) (by rfl) (fun W hW => ?_) ?_
      · exact ⟨rfl, rfl⟩
      go_simp
      refine hK _ ?_
      clear hK K
      refine wpQuiet_step (fun K hK => ?_)
      refine quiet_if (.slice (some ⟨q, 0, none⟩) k k) (by rfl) (fun W hW => ?_) ?_
      · exact ⟨rfl, rfl⟩
      go_simp
      refine hK _ ?_
      clear hK K
      refine wpQuiet_step (fun K hK => ?_)
      refine quiet_if (.slice (some ⟨q, 0, none⟩) k k) (by rfl) (fun W hW => ?_) ?_
      · exact ⟨rfl, rfl⟩
      go_simp
      refine hK _ ?_
      clear hK K
      refine wpQuiet_step (fun K hK => ?_)
      refine quiet_if (.int .i64 (k : Int)) (by rfl) (fun W hW => ?_) ?_
      · go_simp
      go_simp
      refine hK _ ?_
      clear hK K
      refine wpQuiet_step (fun K hK => ?_)
      refine quiet_if (.int .i64 (M1 : Int)) (by rfl) (fun W hW => ?_) ?_
      · go_simp
      go_simp
      refine hK _ ?_
      clear hK K
      refine wpQuiet_step (fun K hK => ?_)
      refine quiet_if (.slice (some ⟨q, 0, none⟩) M1 k) (by rfl) (fun W hW => ?_) ?_
      · go_simp
      go_simp
      refine hK _ ?_
      clear hK K
      refine wpQuiet_step (fun K hK => ?_)
      refine quiet_if (.agg (bytesV Y)) (by rfl) (fun W hW => ?_) ?_
      · go_simp
        refine (HC.out W hW).mono ?_
        rintro e W' ⟨rfl, h⟩
        exact ⟨rfl, hW.trans h⟩
      go_simp
      refine hK _ ?_
      clear hK K
      refine wpQuiet_step (fun K hK => ?_)
      refine quiet_if (.slice (some ⟨q, 0, none⟩) k k) (by rfl) (fun W hW => ?_) ?_
      · exact ⟨rfl, rfl⟩
      go_simp
      refine hK _ ?_
      clear hK K
      refine wpQuiet_step (fun K hK => ?_)
      refine quiet_if (.slice (some ⟨q, 0, none⟩) k k) (by rfl) (fun W hW => ?_) ?_
      · exact ⟨rfl, rfl⟩
      go_simp
      refine hK _ ?_
      clear hK K
      refine wpQuiet_step (fun K hK => ?_)
      refine quiet_if (.int .i64 (k : Int)) (by rfl) (fun W hW => ?_) ?_
      · go_simp
      go_simp
      refine hK _ ?_
      clear hK K
      refine wpQuiet_step (fun K hK => ?_)
      refine quiet_if (.int .i64 (M1 : Int)) (by rfl) (fun W hW => ?_) ?_
      · go_simp
      go_simp
      refine hK _ ?_
      clear hK K
      refine wpQuiet_step (fun K hK => ?_)
      refine quiet_if (.slice (some ⟨q, 0, none⟩) M1 k) (by rfl) (fun W hW => ?_) ?_
      · go_simp
      go_simp
      refine hK _ ?_
      clear hK K
      refine wpQuiet_step (fun K hK => ?_)
      refine quiet_if (.agg (bytesV Y)) (by rfl) (fun W hW => ?_) ?_
      · go_simp
        refine (HD.out W hW).mono ?_
        rintro e W' ⟨rfl, h⟩
        exact ⟨rfl, hW.trans h⟩
      go_simp
      refine hK _ ?_
      clear hK K
      refine wpQuiet_step (fun K hK => ?_)
      refine quiet_if (.bool true) (by rfl) (fun W hW => ?_) ?_
      · have h1 := k2 W
        go_simp
      go_simp
      refine hK _ ?_
      clear hK K
      refine wpQuiet_step (fun K hK => ?_)
      refine quiet_if (.bool true) (by rfl) (fun W hW => ?_) ?_
      · exact ⟨rfl, rfl⟩
      go_simp
      refine hK _ ?_
      clear hK K
      refine wpQuiet_step (fun K hK => ?_)
      refine quiet_if (.bool true) (by rfl) (fun W hW => ?_) ?_
      · exact ⟨rfl, rfl⟩
      go_simp
      refine hK _ ?_
      clear hK K
      refine wpQuiet_nil (fun W hW => ?_)
      go_wp2
      go_ret
      exact ⟨rfl, HS.out.trans hW⟩
end Go.Proofs.Ytfejnjgdgdhckaa
