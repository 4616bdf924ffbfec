/-
  The size up to which so many of a hundred are.
-/
import Derived.Test.YtdppmmoidofgmaaDoorStatRead
import Derived.IntWalk
namespace Go.Proofs.YtdppmmoidofgmaaDoor
open Go.RowKit

/-- How many there are of the first k sizes. -/
def preF (L : Cs) : Nat → Int
  | 0 => 0
  | k + 1 => preF L k + gI L (12 + k)
def pctF (per : Int) : Int := min (max per 0) 100
def wantF (t p : Int) : Int := max (t / 100 * p + (t % 100 * p + 99) / 100) 1
def walkF (L : Cs) (W : Int) : Nat → Nat → Nat
  | 0, _ => 31
  | n + 1, k => if W ≤ preF L (k + 1) then k else walkF L W n (k + 1)
def quF (L : Cs) (per : Int) : Int := if preF L 32 ≤ 0 then 0 else 2 ^ walkF L (wantF (preF L 32) (pctF per)) 32 0 - 1
theorem preF_bd {L : Cs} {M : Int} (hf : Fair L M) : ∀ k, 0 ≤ preF L k ∧ preF L k ≤ k * M
  | 0 => by simp [preF]
  | k + 1 => by
    have h1 := preF_bd hf k
    have h2 := hf.pos (12 + k)
    unfold preF
    rw [Int.natCast_add, Int.add_mul]
    simp only [Int.natCast_one, Int.one_mul]
    omega
theorem preF_mono {L : Cs} {M : Int} (hf : Fair L M) {i j : Nat} (h : i ≤ j) : preF L i ≤ preF L j := by
  induction j with
  | zero => obtain rfl : i = 0 := by omega
            exact Int.le_refl _
  | succ j ih =>
    by_cases hij : i = j + 1
    · subst hij; exact Int.le_refl _
    · have := ih (by omega)
      have := hf.pos (12 + j)
      show preF L i ≤ preF L j + gI L (12 + j)
      omega
theorem walkF_le (L : Cs) (W : Int) : ∀ n k, n + k ≤ 32 → walkF L W n k ≤ 31
  | 0, _, _ => Nat.le_refl _
  | n + 1, k, h => by
    unfold walkF
    split
    · omega
    · exact walkF_le L W n (k + 1) (by omega)
theorem pow_bd {k : Nat} (h : k < 32) : (1 : Int) ≤ 2 ^ k ∧ (2 : Int) ^ k ≤ 2147483648 := by
  have h' : ∀ j : Fin 32, (1 : Int) ≤ 2 ^ j.val ∧ (2 : Int) ^ j.val ≤ 2147483648 := by decide +kernel
  exact h' ⟨k, h⟩
theorem wrap_pow {P : Int} (h1 : 1 ≤ P) (h2 : P ≤ 2147483648) : RowKit.wrap64 P = P ∧ RowKit.wrap64 (P - 1) = P - 1 := by
  rw [← IntWalk.i64_left, ← IntWalk.i64_left]
  exact ⟨IntWalk.i64_in _ (by omega), IntWalk.i64_in _ (by omega)⟩
set_option maxRecDepth 100000 in
set_option maxHeartbeats 4000000 in
theorem quantile_any (p : Nat) (L : Cs) (per : Int) (M : Int) (w : World) (h : IsStat p L w) (hf : Fair L M) (hM : 32 * M ≤ 4000000000000000000) :
    Calls Tryd.prog 11 #[.pointer (some ⟨p, 0, none⟩), .int .i64 per] w fun e w' => e = .returned (.int .i64 (quF L per)) ∧ Below w.heap.size w w' := by
  have hl := hf.len
  have HPB := Lib.hid (preF_bd hf)
  have HG : Hid (∀ k, 0 ≤ gI L (12 + k) ∧ gI L (12 + k) ≤ M) := Lib.hid (fun k => hf.pos (12 + k))
  have HC : Hid (∀ k, k < 32 → (w.alloc (.cells (sizesA L 32) 2)).cell? ⟨w.heap.size, k, none⟩ = some (.int .i64 (gI L (12 + k)))) := Lib.hid (fun k hk => by
    rw [Lib.cell_of_heap (heap_alloc_new w _), Array.getElem?_eq_getElem (by rw [sizesA_size]; exact hk), sizesA_get, if_pos hk])
  have HZ := Lib.hid (show Below w.heap.size w (w.alloc (.cells (sizesA L 32) 2)) from ((Spares.refl nowhere w).alloc _).below0)
  clear hf
  go_enter Tryd.func11, Tryd.ntmps11
  go_wp2_with fail
  refine (sizes_any p L _ h hl).mono ?_
  rintro e w1 ⟨rfl, rfl⟩
  obtain ⟨v, hv⟩ : ∃ v, w.alloc (.cells (sizesA L 32) 2) = v := ⟨_, rfl⟩
  rw [hv]
  rw [hv] at HC HZ
  clear hv h
  go_wp2
  go_loopw [6, 17] (fun t i wr => ∃ k : Nat, k ≤ 32 ∧ i = .int .i64 k ∧ t = .int .i64 (preF L k) ∧ wr = v) (fun _ i _ => 32 - (intOf i).toNat)
  case atStart => exact ⟨0, by omega, rfl, rfl, rfl⟩
  case round =>
    obtain ⟨k, hk, rfl, rfl, rfl⟩ := hrel
    have hb := HPB.out k
    have hkM : (k : Int) * M ≤ 32 * M := Int.mul_le_mul_of_nonneg_right (by omega) (by have := HG.out 0; omega)
    by_cases hlt : k < 32
    · have hc := HC.out k hlt
      have hg := HG.out k
      have hw1 : IntKind.i64.wrap (preF L k + gI L (12 + k)) = preF L (k + 1) := by
        show _ = preF L k + gI L (12 + k)
        exact IntWalk.i64_in _ (by omega)
      go_wp2
      go_roundw
      case rel => exact ⟨k + 1, by omega, by go_num, rfl, trivial⟩
      case measure => simp [intOf]; omega
    · obtain rfl : k = 32 := by omega
      obtain ⟨t, ht⟩ : ∃ t, preF L 32 = t := ⟨_, rfl⟩
      rw [ht] at hb ⊢
      have hb1 : t ≤ 4000000000000000000 := by omega
      by_cases ht0 : t ≤ 0
      · have HQ : Hid (quF L per = 0) := Lib.hid (by unfold quF; rw [ht]; exact if_pos ht0)
        go_wp2
        go_ret
        exact ⟨by rw [HQ.out]; rfl, HZ.out⟩
      · have HQ : Hid (quF L per = 2 ^ walkF L (wantF t (pctF per)) 32 0 - 1) := Lib.hid (by unfold quF; rw [ht]; exact if_neg ht0)
        have hq : 0 ≤ min (max per 0) 100 ∧ min (max per 0) 100 ≤ 100 := by omega
        have hA : 0 ≤ t / 100 * min (max per 0) 100 ∧ t / 100 * min (max per 0) 100 ≤ t / 100 * 100 := ⟨Int.mul_nonneg (by omega) hq.1, Int.mul_le_mul_of_nonneg_left hq.2 (by omega)⟩
        have hB : 0 ≤ t % 100 * min (max per 0) 100 ∧ t % 100 * min (max per 0) 100 ≤ t % 100 * 100 := ⟨Int.mul_nonneg (by omega) hq.1, Int.mul_le_mul_of_nonneg_left hq.2 (by omega)⟩
        obtain ⟨A, hAe⟩ : ∃ A, t / 100 * min (max per 0) 100 = A := ⟨_, rfl⟩
        obtain ⟨C, hCe⟩ : ∃ C, t % 100 * min (max per 0) 100 = C := ⟨_, rfl⟩
        rw [hAe] at hA
        rw [hCe] at hB
        have hk1 : RowKit.wrap64 A = A := by rw [← IntWalk.i64_left]; exact IntWalk.i64_in _ (by omega)
        have hk2 : RowKit.wrap64 C = C := by rw [← IntWalk.i64_left]; exact IntWalk.i64_in _ (by omega)
        have hk3 : RowKit.wrap64 (C + 99) = C + 99 := by rw [← IntWalk.i64_left]; exact IntWalk.i64_in _ (by omega)
        have hk4 : RowKit.wrap64 ((C + 99).tdiv 100) = (C + 99) / 100 := by rw [← IntWalk.i64_left]; exact IntWalk.i64_quo _ _ ⟨by omega, by omega, by omega⟩
        have hk5 : RowKit.wrap64 (A + (C + 99) / 100) = A + (C + 99) / 100 := by rw [← IntWalk.i64_left]; exact IntWalk.i64_in _ (by omega)
        have HW : Hid (wantF t (pctF per) = max (A + (C + 99) / 100) 1) := Lib.hid (by unfold wantF pctF; rw [hAe, hCe])
        have HWB : Hid (1 ≤ max (A + (C + 99) / 100) 1 ∧ max (A + (C + 99) / 100) 1 ≤ 4000000000000000001) := Lib.hid (by omega)
        clear hq
        go_wp2
        obtain ⟨W, hWe⟩ : ∃ W, max (A + (C + 99) / 100) 1 = W := ⟨_, rfl⟩
        rw [hWe] at HW HWB ⊢
        rw [HW.out] at HQ
        clear hk1 hk2 hk3 hk4 hk5 hAe hCe hA hB hWe HW ht0 ht hb hb1 hkM
        go_loopw [10, 44] (fun x i wx => ∃ k : Nat, k ≤ 32 ∧ i = .int .i64 k ∧ x = .int .i64 (W - preF L k) ∧ walkF L W 32 0 = walkF L W (32 - k) k ∧ wx = wr) (fun _ i _ => 32 - (intOf i).toNat)
        case atStart => exact ⟨0, by omega, rfl, by rw [show preF L 0 = 0 from rfl, Int.sub_zero], rfl, rfl⟩
        case round =>
          obtain ⟨k, hk, rfl, rfl, hwk, rfl⟩ := hrel
          have hb := HPB.out k
          have hkM : (k : Int) * M ≤ 32 * M := Int.mul_le_mul_of_nonneg_right (by omega) (by have := HG.out 0; omega)
          have HWK := Lib.hid hwk
          clear hwk
          by_cases hlt : k < 32
          · have hc := HC.out k hlt
            have hg := HG.out k
            have hW := HWB.out
            have HX : Hid (preF L (k + 1) = preF L k + gI L (12 + k)) := Lib.hid rfl
            have hw1 : IntKind.i64.wrap (W - preF L k - gI L (12 + k)) = W - preF L (k + 1) := by
              rw [HX.out, IntWalk.i64_in _ (by omega)]
              omega
            obtain ⟨m, hm⟩ : ∃ m, 32 - k = m + 1 := ⟨31 - k, by omega⟩
            have HST : Hid (walkF L W 32 0 = if W ≤ preF L (k + 1) then k else walkF L W m (k + 1)) := Lib.hid (by rw [HWK.out, hm]; rfl)
            have hm2 : m = 32 - (k + 1) := by omega
            by_cases hd : W ≤ preF L (k + 1)
            · have hd0 : W - preF L (k + 1) ≤ 0 := by omega
              have HE : Hid (walkF L W 32 0 = k) := Lib.hid (HST.out.trans (if_pos hd))
              have hpw := pow_bd hlt
              have hk1 : RowKit.wrap64 ((2 : Int) ^ k) = 2 ^ k := (wrap_pow hpw.1 hpw.2).1
              have HK2 : Hid (RowKit.wrap64 ((2 : Int) ^ k - 1) = 2 ^ k - 1) := Lib.hid (wrap_pow hpw.1 hpw.2).2
              clear hpw
              go_wp2
              go_ret
              refine ⟨?_, HZ.out⟩
              rw [HQ.out, HE.out]
              exact congrArg (fun z : Int => Ending.returned (.int .i64 z)) HK2.out
            · have hd0 : ¬ (W - preF L (k + 1) ≤ 0) := by omega
              have HE : Hid (walkF L W 32 0 = walkF L W (32 - (k + 1)) (k + 1)) := Lib.hid (by rw [← hm2]; exact HST.out.trans (if_neg hd))
              go_wp2
              go_roundw
              case rel => exact ⟨k + 1, by omega, by go_num, rfl, HE.out, trivial⟩
              case measure => simp [intOf]; omega
          · obtain rfl : k = 32 := by omega
            have HE : Hid (walkF L W 32 0 = 31) := HWK
            go_wp2
            go_ret
            exact ⟨by rw [HQ.out, HE.out]; rfl, HZ.out⟩
end Go.Proofs.YtdppmmoidofgmaaDoor
