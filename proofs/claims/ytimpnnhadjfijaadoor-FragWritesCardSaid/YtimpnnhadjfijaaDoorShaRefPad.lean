/-
  The reference's pad: a text as it is summed.
-/
import Derived.Test.YtimpnnhadjfijaaDoorShaPad
import Derived.Test.YtimpnnhadjfijaaDoorRow8
namespace Go.Proofs.YtimpnnhadjfijaaDoor
open Go.RowKit

theorem lenB_len (n : Nat) : (lenB n).length = 8 := by simp [lenB]
theorem lenB_take (n k j : Nat) (hk : k < 8) (hj : 7 - k = j) : (lenB n).take (k + 1) = (lenB n).take k ++ [UInt8.ofNat (n * 8 / 256 ^ j)] := by
  rw [List.take_add_one, List.getElem?_eq_getElem (by rw [lenB_len]; exact hk), ← hj]
  simp [lenB]
theorem byte_shift (M j s : Nat) (hs : 8 * j = s) : ((M : Int) / 2 ^ s) % 256 = ((UInt8.ofNat (M / 256 ^ j)).toNat : Int) := by
  have e : (2 : Int) ^ s = ((256 ^ j : Nat) : Int) := by rw [← hs, show (256 : Nat) = 2 ^ 8 from rfl, ← Nat.pow_mul]; simp
  rw [UInt8.toNat_ofNat', e, ← Int.natCast_ediv]
  simp
set_option maxRecDepth 100000 in
set_option maxHeartbeats 1000000 in
theorem pad_any (a : Option Addr) (n c : Nat) (l : List UInt8) (w : World) (hl : BytesAt w a l) (hn : n = l.length) (hmax : n ≤ 70368744177664) (hnil : a = none → c = 0) :
    Calls Tryd.prog 40 #[.slice a n c] w fun e w' => ∃ v, e = .returned v ∧ Row8 w.heap.size w' v (padS l) ∧ Spares nowhere w w' := by
  have HL := Lib.hid hl
  have HN := Lib.hid hn
  have HNIL := Lib.hid hnil
  clear hl hn hnil
  go_enter Tryd.func40, Tryd.ntmps40
  go_wp2_with (first
    | ((with_reducible show wpList _ _ _ (⟨some 7, _, _, _, _, _⟩ :: _) _ _); refine wpList_row_bytes rfl _ _ rfl w.heap.size _ [] rfl (row8_nil _ _) a c n l rfl HN.out HL.out HNIL.out (by simp; omega) (Nat.le_refl _) ?_; intro v7 w7 hr7 hs7; have HR7 := Lib.hid hr7; have HS7 := Lib.hid hs7; have hB7 := hs7.size; clear hr7 hs7)
    | ((with_reducible show wpList _ _ _ (⟨some 9, _, _, _, _, _⟩ :: _) _ _); refine wpList_row_one rfl _ _ rfl w.heap.size v7 _ rfl HR7.out 128 _ rfl rfl (by have := HN.out; simp; omega) hB7 ?_; intro v9 w9 hr9 hs9; have HR9 := Lib.hid hr9; have HS9 := Lib.hid hs9; clear hr9 hs9))
  have HS9n : Hid (Spares nowhere w w9) := Lib.hid ((HS7.out.trans HS9.out).mono (fun _ h => .inr h))
  obtain ⟨D, hD⟩ : ∃ D, l ++ [128] = D := ⟨_, rfl⟩
  have hDl : D.length = n + 1 := by rw [← hD, HN.out]; simp
  have HR9n : Hid (Row8 w.heap.size w9 v9 (D ++ List.replicate 0 0)) := Lib.hid (by have := HR9.out; rw [List.nil_append, hD] at this; simpa using this)
  have HDD := Lib.hid hD
  have HDL := Lib.hid hDl
  obtain ⟨T, hT⟩ : ∃ T, (119 - n % 64) % 64 = T := ⟨_, rfl⟩
  have hT1 : T < 64 ∧ (n + 1 + T) % 64 = 56 ∧ ∀ z, z < T → (n + 1 + z) % 64 ≠ 56 := ⟨by omega, by omega, fun z hz => by omega⟩
  have HT := Lib.hid hT
  have HT1 := Lib.hid hT1
  clear HR7 HS7 hB7 HR9 HS9 hD hDl hT hT1 HNIL
  go_loopw [3] (fun v wr => ∃ z : Nat, z ≤ T ∧ Hid (Row8 w.heap.size wr v (D ++ List.replicate z 0)) ∧ Hid (Spares nowhere w wr)) (fun v _ => n + 1 + T - lenV v)
  case atStart => exact ⟨0, by omega, HR9n, HS9n⟩
  clear HR9n HS9n
  case round =>
    obtain ⟨z, hz, HR1, HS1⟩ := hrel
    obtain ⟨X, hX⟩ : ∃ X, D ++ List.replicate z (0 : UInt8) = X := ⟨_, rfl⟩
    rw [hX] at HR1
    obtain ⟨a3, c3, rfl, hat, hnl, hc3⟩ := HR1.out.shape
    have hXl : X.length = n + 1 + z := by rw [← hX, List.length_append, HDL.out, List.length_replicate]
    obtain ⟨N, hN⟩ : ∃ N, X.length = N := ⟨_, rfl⟩
    rw [hN]
    rw [hN] at HR1 hc3 hXl
    by_cases hlt : z < T
    · have h56 : ¬ (N % 64 = 56) := by rw [hXl]; exact HT1.out.2.2 z hlt
      have d1 : decide ((N : Int) % 64 = 56) = false := by rw [decide_eq_false_iff_not]; omega
      have d2 : ¬ ((N : Int) % 64 = 56) := by omega
      have HNX : Hid (X ++ [0] = D ++ List.replicate (z + 1) 0) := Lib.hid (by rw [← hX, List.replicate_succ', List.append_assoc])
      have hB1 := HS1.out.size
      have HNN := Lib.hid hN
      have hNm : N + 1 ≤ 140737488355328 := by have := HT1.out.1; omega
      clear hX hat hnl hc3 h56 hN
      go_wp2_with ((with_reducible show wpList _ _ _ (⟨some 16, _, _, _, _, _⟩ :: _) _ _); refine wpList_row_one rfl _ _ rfl w.heap.size _ X rfl HR1.out 0 _ rfl rfl (by rw [HNN.out]; exact hNm) hB1 ?_; intro v9 w9 hr9 hs9; have HR9 := Lib.hid hr9; have HS9 := Lib.hid hs9; clear hr9 hs9)
      go_roundw
      case rel =>
        refine ⟨z + 1, by omega, by rw [← HNX.out]; exact HR9, Lib.hid ((HS1.out.trans' HS9.out (fun b hb => .inr hb)))⟩
      case measure =>
        obtain ⟨a4, c4, rfl, _⟩ := HR9.out.shape
        simp [lenV, HNN.out]
        omega
    · obtain rfl : z = T := by omega
      have d2 : (N : Int) % 64 = 56 := by have := HT1.out.2.1; omega
      have HNX : Hid (X = l ++ [128] ++ List.replicate ((119 - l.length % 64) % 64) 0) := Lib.hid (by rw [← hX, ← HDD.out, ← HN.out, HT.out])
      have k1 : IntKind.u64.wrap (n : Int) = (n : Int) := by rw [IntKind.wrap_u64]; omega
      obtain ⟨M, hM⟩ : ∃ M, n * 8 = M := ⟨_, rfl⟩
      have k2 : IntKind.u64.wrap ((n : Int) * 8) = (M : Int) := by rw [IntKind.wrap_u64]; omega
      have HMM := Lib.hid hM
      have hB1 := HS1.out.size
      have HXL : Hid (X.length = N) := Lib.hid hN
      have d3 : ((N : Int) % 64 != 56) = false := by simp [d2]
      have HNB : Hid (N ≤ 70368744177664 + 65) := Lib.hid (by have := HT1.out.1; omega)
      clear hM hX hat hnl hc3 hXl d2
      go_wp2
      have HR0 : Hid (Row8 w.heap.size wr (Value.slice a3 N c3) (X ++ (lenB n).take 0)) := Lib.hid (by rw [List.take_zero, List.append_nil]; exact HR1.out)
      go_loopw [3, 5] (fun v i wr => ∃ k : Nat, k ≤ 8 ∧ i = .int .i64 (7 - (k : Int)) ∧ Hid (Row8 w.heap.size wr v (X ++ (lenB n).take k)) ∧ Hid (Spares nowhere w wr)) (fun _ i _ => (intOf i + 1).toNat)
      case atStart => exact ⟨0, by omega, rfl, HR0, HS1⟩
      clear HR0 HS1 HR1 hN hB1
      case round =>
        obtain ⟨k, hk, rfl, HR1, HS1⟩ := hrel
        by_cases hlt : k < 8
        · obtain ⟨j, hj⟩ : ∃ j : Nat, 7 - k = j := ⟨_, rfl⟩
          have hji : (7 : Int) - (k : Int) = (j : Int) := by omega
          rw [hji]
          obtain ⟨s, hs⟩ : ∃ s : Nat, 8 * j = s := ⟨_, rfl⟩
          have hsi : (8 : Int) * (j : Int) = (s : Int) := by omega
          have hs0 : s < 64 := by omega
          have hB1 := HS1.out.size
          obtain ⟨x, hx⟩ : ∃ x, UInt8.ofNat (M / 256 ^ j) = x := ⟨_, rfl⟩
          have hbt := byte_shift M j s hs
          rw [hx] at hbt
          have hbw : IntKind.u8.wrap ((M : Int) / 2 ^ s) = (x.toNat : Int) := by rw [← hbt, IntKind.wrap_u8]
          obtain ⟨Y, hY⟩ : ∃ Y, X ++ (lenB n).take k = Y := ⟨_, rfl⟩
          rw [hY] at HR1
          have hYl : Y.length + 1 ≤ 140737488355328 := by rw [← hY, List.length_append, HXL.out, List.length_take, lenB_len]; have := HNB.out; omega
          have HNXT : Hid (X ++ (lenB n).take (k + 1) = Y ++ [x]) := Lib.hid (by rw [lenB_take n k j hlt hj, ← List.append_assoc, hY, HMM.out, hx])
          have HYL := Lib.hid hYl
          have hj2 : (j : Int) - 1 = 7 - ((k + 1 : Nat) : Int) := by omega
          have HJ2 := Lib.hid hj2
          clear hx hY hYl hj hji hs hj2
          go_wp2_with ((with_reducible show wpList _ _ _ (⟨some 32, _, _, _, _, _⟩ :: _) _ _); refine wpList_row_one rfl _ _ rfl w.heap.size _ Y rfl HR1.out x _ rfl rfl HYL.out hB1 ?_; intro v9 w9 hr9 hs9; have HR9 := Lib.hid hr9; have HS9 := Lib.hid hs9; clear hr9 hs9)
          go_roundw
          case rel =>
            exact ⟨k + 1, by omega, by rw [HJ2.out], by rw [HNXT.out]; exact HR9, Lib.hid (HS1.out.trans' HS9.out (fun b hb => .inr hb))⟩
          case measure => simp [intOf]
        · obtain rfl : k = 8 := by omega
          have HRF : Hid (Row8 w.heap.size wr u3 (padS l)) := Lib.hid (by
            have := HR1.out
            rw [List.take_of_length_le (by rw [lenB_len]; omega), HNX.out, HN.out] at this
            exact this)
          go_wp2
          go_ret
          exact ⟨_, rfl, HRF.out, HS1.out⟩
end Go.Proofs.YtimpnnhadjfijaaDoor
