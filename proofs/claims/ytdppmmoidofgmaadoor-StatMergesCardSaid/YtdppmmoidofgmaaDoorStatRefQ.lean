/-
  The reference's quantile is the program's.
-/
import Derived.Test.YtdppmmoidofgmaaDoorStatQMath
namespace Go.Proofs.YtdppmmoidofgmaaDoor
open Go.RowKit

theorem want_one {t p : Int} : (p * t + 99) / 100 = t / 100 * p + (t % 100 * p + 99) / 100 := by
  have e : p * t = 100 * (t / 100 * p) + t % 100 * p := by
    have h := Int.mul_ediv_add_emod t 100
    calc p * t = p * (100 * (t / 100) + t % 100) := by rw [h]
      _ = 100 * (t / 100 * p) + t % 100 * p := by rw [Int.mul_add, Int.mul_comm p (100 * (t / 100)), Int.mul_comm p (t % 100), Int.mul_assoc]
  rw [e]
  generalize t / 100 * p = a
  generalize t % 100 * p = b
  omega
set_option maxRecDepth 100000 in
set_option maxHeartbeats 4000000 in
theorem refQuantile_any (p : Nat) (L : Cs) (per : Int) (M : Int) (w : World) (h : StatAt 30 p L w) (hf : Fair L M) (hM : 3200 * M ≤ 4000000000000000000) :
    Calls Tryd.prog 12 #[.pointer (some ⟨p, 0, none⟩), .int .i64 per] w fun e w' => e = .returned (.int .i64 (quF L per)) ∧ w' = w := by
  have hl := hf.len
  have HF := Lib.hid hf
  have HPB := Lib.hid (preF_bd hf)
  have HG : Hid (∀ k, 0 ≤ gI L (12 + k) ∧ gI L (12 + k) ≤ M) := Lib.hid (fun k => hf.pos (12 + k))
  have HC : Hid (∀ k, k < 32 → w.cell? ⟨p, 12 + k, none⟩ = some (.int .i64 (gI L (12 + k)))) := Lib.hid (fun k hk => h.cell (by omega))
  clear hf h
  go_enter Tryd.func12, Tryd.ntmps12
  go_wp2
  go_loopw [5, 6] (fun t i wr => ∃ k : Nat, k ≤ 32 ∧ i = .int .i64 k ∧ t = .int .i64 (preF L k) ∧ wr = w) (fun _ i _ => 32 - (intOf i).toNat)
  case atStart => exact ⟨0, by omega, rfl, rfl, rfl⟩
  case round =>
    obtain ⟨k, hk, rfl, rfl, rfl⟩ := hrel
    have hb := HPB.out k
    have hkM : (k : Int) * M ≤ 32 * M := Int.mul_le_mul_of_nonneg_right (by omega) (by have := HG.out 0; omega)
    by_cases hlt : k < 32
    · have hc := HC.out k hlt
      have hg := HG.out k
      have hw1 : IntKind.i64.wrap (preF L k + gI L (12 + k)) = preF L (k + 1) := by
        show _ = preF L k + gI L (12 + k)
        exact IntWalk.i64_in _ (by omega)
      go_wp2
      go_roundw
      case rel => exact ⟨k + 1, by omega, by go_num, rfl, trivial⟩
      case measure => simp [intOf]; omega
    · obtain rfl : k = 32 := by omega
      obtain ⟨t, ht⟩ : ∃ t, preF L 32 = t := ⟨_, rfl⟩
      have HT32 := Lib.hid ht
      rw [ht] at hb ⊢
      have hb1 : t ≤ 40000000000000000 := by omega
      by_cases ht0 : t = 0
      · have HQ : Hid (quF L per = 0) := Lib.hid (by unfold quF; rw [ht]; exact if_pos (by omega))
        subst ht0
        go_wp2
        go_ret
        exact ⟨by rw [HQ.out]; rfl, rfl⟩
      · have HQ : Hid (quF L per = 2 ^ walkF L (wantF t (pctF per)) 32 0 - 1) := Lib.hid (by unfold quF; rw [ht]; exact if_neg (by omega))
        have hq : 0 ≤ min (max per 0) 100 ∧ min (max per 0) 100 ≤ 100 := by omega
        have HWT : Hid (wantF t (pctF per) ≤ preF L 32) := Lib.hid (by rw [ht]; exact want_le (by omega) (by unfold pctF; omega))
        have hA : 0 ≤ min (max per 0) 100 * t ∧ min (max per 0) 100 * t ≤ 100 * t := ⟨Int.mul_nonneg hq.1 (by omega), Int.mul_le_mul_of_nonneg_right hq.2 (by omega)⟩
        have hone := want_one (t := t) (p := min (max per 0) 100)
        obtain ⟨A, hAe⟩ : ∃ A, min (max per 0) 100 * t = A := ⟨_, rfl⟩
        rw [hAe] at hA hone
        have ht0' : (t == 0) = false := by rw [beq_eq_false_iff_ne]; exact ht0
        have hk1 : RowKit.wrap64 A = A := by rw [← IntWalk.i64_left]; exact IntWalk.i64_in _ (by omega)
        have hk3 : RowKit.wrap64 (A + 99) = A + 99 := by rw [← IntWalk.i64_left]; exact IntWalk.i64_in _ (by omega)
        have hk4 : RowKit.wrap64 ((A + 99).tdiv 100) = (A + 99) / 100 := by rw [← IntWalk.i64_left]; exact IntWalk.i64_quo _ _ ⟨by omega, by omega, by omega⟩
        have HW : Hid (wantF t (pctF per) = max ((A + 99) / 100) 1) := Lib.hid (by unfold wantF pctF; rw [hone])
        have HWB : Hid (1 ≤ max ((A + 99) / 100) 1 ∧ max ((A + 99) / 100) 1 ≤ 4000000000000000001) := Lib.hid (by omega)
        clear hq hone ht
        go_wp2
        obtain ⟨W, hWe⟩ : ∃ W, max ((A + 99) / 100) 1 = W := ⟨_, rfl⟩
        rw [hWe] at HW HWB ⊢
        rw [HW.out] at HQ HWT
        clear hk1 hk3 hk4 hAe hA hWe HW ht0 ht0' hb hb1 hkM HT32
        go_loopw [8, 9] (fun x i wx => ∃ k : Nat, k ≤ 32 ∧ i = .int .i64 k ∧ x = .int .i64 (preF L k) ∧ walkF L W 32 0 = walkF L W (32 - k) k ∧ preF L k < W ∧ wx = wr) (fun _ i _ => 32 - (intOf i).toNat)
        case atStart => exact ⟨0, by omega, rfl, rfl, rfl, by have := HWB.out; show (0 : Int) < W; omega, rfl⟩
        case round =>
          obtain ⟨k, hk, rfl, rfl, hwk, hpk, rfl⟩ := hrel
          have hb := HPB.out k
          have hkM : (k : Int) * M ≤ 32 * M := Int.mul_le_mul_of_nonneg_right (by omega) (by have := HG.out 0; omega)
          have HWK := Lib.hid hwk
          have HPK := Lib.hid hpk
          clear hwk hpk
          by_cases hlt : k < 32
          · have hc := HC.out k hlt
            have hg := HG.out k
            have HX : Hid (preF L (k + 1) = preF L k + gI L (12 + k)) := Lib.hid rfl
            have hw1 : IntKind.i64.wrap (preF L k + gI L (12 + k)) = preF L (k + 1) := by
              rw [HX.out]
              exact IntWalk.i64_in _ (by omega)
            obtain ⟨m, hm⟩ : ∃ m, 32 - k = m + 1 := ⟨31 - k, by omega⟩
            have HST : Hid (walkF L W 32 0 = if W ≤ preF L (k + 1) then k else walkF L W m (k + 1)) := Lib.hid (by rw [HWK.out, hm]; rfl)
            have hm2 : m = 32 - (k + 1) := by omega
            by_cases hd : W ≤ preF L (k + 1)
            · have HE : Hid (walkF L W 32 0 = k) := Lib.hid (HST.out.trans (if_pos hd))
              have hpw := pow_bd hlt
              have hk1 : RowKit.wrap64 ((2 : Int) ^ k) = 2 ^ k := (wrap_pow hpw.1 hpw.2).1
              have HK2 : Hid (RowKit.wrap64 ((2 : Int) ^ k - 1) = 2 ^ k - 1) := Lib.hid (wrap_pow hpw.1 hpw.2).2
              clear hpw
              go_wp2
              go_ret
              refine ⟨?_, rfl⟩
              rw [HQ.out, HE.out]
              exact congrArg (fun z : Int => Ending.returned (.int .i64 z)) HK2.out
            · have HE : Hid (walkF L W 32 0 = walkF L W (32 - (k + 1)) (k + 1)) := Lib.hid (by rw [← hm2]; exact HST.out.trans (if_neg hd))
              have HD : Hid (preF L (k + 1) < W) := Lib.hid (by omega)
              go_wp2
              go_roundw
              case rel => exact ⟨k + 1, by omega, by go_num, rfl, HE.out, HD.out, trivial⟩
              case measure => simp [intOf]; omega
          · obtain rfl : k = 32 := by omega
            exact absurd HPK.out (by have := HWT.out; omega)
end Go.Proofs.YtdppmmoidofgmaaDoor
