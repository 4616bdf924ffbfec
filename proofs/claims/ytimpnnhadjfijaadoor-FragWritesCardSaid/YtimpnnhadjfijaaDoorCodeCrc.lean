/-
  The sum of bytes: the program's and the reference's.
-/
import Derived.Test.YtimpnnhadjfijaaDoorBytes2
import Derived.Test.YtimpnnhadjfijaaDoorCrcMath
namespace Go.Proofs.YtimpnnhadjfijaaDoor
open Go.RowKit CrcMath

theorem ret_u32 {a b : Int} (h : a = b) : Ending.returned (.int .u32 a) = .returned (.int .u32 b) := by rw [h]

/-- The table of four bits, where the program keeps it. -/
def Steps (w : World) : Prop := ∀ r, r < 16 → w.cell? ⟨0, r, none⟩ = some (.int .u32 (tab.getD r 0 : Nat))

theorem half (w : World) (hT : Steps w) (c : Nat) (h : c < 4294967296) : ∃ r q t : Nat, Go.bits .and .u32 (c : Int) 15 = (r : Int) ∧ r < 16 ∧ (c : Int) / 16 = (q : Int) ∧ w.cell? ⟨0, r, none⟩ = some (.int .u32 (t : Int)) ∧ Go.bits .xor .u32 (q : Int) (t : Int) = (step4 c : Nat) ∧ step4 c < 4294967296 := by
  refine ⟨c % 16, c / 16, tab.getD (c % 16) 0, ?_, Nat.mod_lt _ (by omega), by omega, hT _ (Nat.mod_lt _ (by omega)), ?_, step4_lt h⟩
  · have := u32_and_nat c 15 h (by omega)
    rw [nat_mask4] at this
    exact this
  · exact u32_xor_nat _ _ (by omega) (tab_lt _ (Nat.mod_lt _ (by omega)))

set_option maxHeartbeats 1000000 in
theorem crc_any (l : List UInt8) (a : Option Addr) (cap : Nat) (w : World) (hT : Steps w) (hin : BytesAt w a l) (hle : l.length ≤ 140737488351232) :
    Calls Tryd.prog 26 #[.slice a l.length cap] w fun e w' => e = .returned (.int .u32 (crcF l : Nat)) ∧ w = w' := by
  have HIN := Lib.hid hin
  have HT := Lib.hid hT
  clear hin hT
  go_enter Tryd.func26, Tryd.ntmps26
  go_wp2
  go_loop [3, 8] (fun s i => ∃ k : Nat, k ≤ l.length ∧ i = .int .i64 k ∧ s = .int .u32 (crcG (l.take k) : Nat)) (fun _ i => l.length - (intOf i).toNat)
  case atStart => exact ⟨0, Nat.zero_le _, rfl, rfl⟩
  case round =>
    obtain ⟨k, hk, rfl, rfl⟩ := hrel
    by_cases hlt : k < l.length
    · obtain ⟨b, off, rfl, hc⟩ := HIN.out k hlt
      obtain ⟨c, hcc⟩ : ∃ c, crcG (l.take k) = c := ⟨_, rfl⟩
      rw [hcc]
      have HN := Lib.hid (crcG_take hlt)
      have HC := Lib.hid hcc
      have hlc : c < 4294967296 := by rw [← hcc]; exact crcG_lt _
      clear hcc
      obtain ⟨x, hx⟩ : ∃ x : UInt8, l[k] = x := ⟨_, rfl⟩
      rw [hx] at hc HN
      clear hx
      obtain ⟨c1, h1⟩ : ∃ c1, c ^^^ x.toNat = c1 := ⟨_, rfl⟩
      have hx256 := x.toNat_lt
      have f1 : Go.bits .xor .u32 (c : Int) (x.toNat : Int) = (c1 : Int) := by rw [u32_xor_nat _ _ (by omega) (by omega), h1]
      obtain ⟨r1, q1, t1, g1, g2, g3, g4, g5, g6⟩ := half w HT.out c1 (by rw [← h1]; exact mix_lt hlc x)
      obtain ⟨c2, h2⟩ : ∃ c2, step4 c1 = c2 := ⟨_, rfl⟩
      rw [h2] at g5 g6
      obtain ⟨r2, q2, t2, k1, k2, k3, k4, k5, k6⟩ := half w HT.out c2 g6
      obtain ⟨c3, h3⟩ : ∃ c3, step4 c2 = c3 := ⟨_, rfl⟩
      rw [h3] at k5 k6
      have HE : Hid (crc1 c x = c3) := Lib.hid (by rw [crc1_steps, h1, h2, h3])
      clear h1 h2 h3
      go_wp2
      go_round
      case rel => exact ⟨k + 1, by omega, by go_num, by rw [HN.out, HC.out, HE.out]⟩
      case measure => simp [intOf]; omega
    · have HF := Lib.hid (show crcF l = 4294967295 ^^^ crcG (l.take k) by rw [List.take_of_length_le (by omega)]; rfl)
      have hg := crcG_lt (l.take k)
      go_wp2
      go_ret
      exact ⟨ret_u32 (by rw [HF.out]; exact u32_xor_nat _ _ (by decide) hg), rfl⟩

theorem bits_succ (k c : Nat) : CrcMath.bits (k + 1) c = bit1 (CrcMath.bits k c) := rfl
theorem one_odd {c : Nat} (h : c < 4294967296) (ho : c % 2 = 1) : (Go.bits .and .u32 (c : Int) 1 == 1) = true ∧ ∃ q : Nat, (c : Int) / 2 = (q : Int) ∧ Go.bits .xor .u32 (q : Int) 3988292384 = (bit1 c : Nat) := by
  refine ⟨?_, c / 2, by omega, ?_⟩
  · have := u32_and_nat c 1 h (by omega)
    rw [nat_mask1, ho] at this
    rw [show ((1 : Int)) = ((1 : Nat) : Int) from rfl, this]; rfl
  · have := u32_xor_nat (c / 2) 3988292384 (by omega) (by omega)
    unfold bit1
    rw [if_pos ho]
    exact this
theorem one_even {c : Nat} (h : c < 4294967296) (ho : c % 2 = 0) : (Go.bits .and .u32 (c : Int) 1 == 1) = false ∧ (c : Int) / 2 = (bit1 c : Nat) := by
  refine ⟨?_, ?_⟩
  · have := u32_and_nat c 1 h (by omega)
    rw [nat_mask1, ho] at this
    rw [show ((1 : Int)) = ((1 : Nat) : Int) from rfl, this]; rfl
  · unfold bit1
    rw [if_neg (by omega)]
    omega

set_option maxHeartbeats 1000000 in
theorem refCrc_any (l : List UInt8) (a : Option Addr) (cap : Nat) (w : World) (hin : BytesAt w a l) (hle : l.length ≤ 140737488351232) :
    Calls Tryd.prog 29 #[.slice a l.length cap] w fun e w' => e = .returned (.int .u32 (crcF l : Nat)) ∧ w = w' := by
  have HIN := Lib.hid hin
  clear hin
  go_enter Tryd.func29, Tryd.ntmps29
  go_wp2
  go_loop [3, 4] (fun s i => ∃ k : Nat, k ≤ l.length ∧ i = .int .i64 k ∧ s = .int .u32 (crcG (l.take k) : Nat)) (fun _ i => l.length - (intOf i).toNat)
  case atStart => exact ⟨0, Nat.zero_le _, rfl, rfl⟩
  case round =>
    obtain ⟨k, hk, rfl, rfl⟩ := hrel
    by_cases hlt : k < l.length
    · obtain ⟨b, off, rfl, hc⟩ := HIN.out k hlt
      obtain ⟨c, hcc⟩ : ∃ c, crcG (l.take k) = c := ⟨_, rfl⟩
      rw [hcc]
      have HN := Lib.hid (crcG_take hlt)
      have HC := Lib.hid hcc
      have hlc : c < 4294967296 := by rw [← hcc]; exact crcG_lt _
      clear hcc
      obtain ⟨x, hx⟩ : ∃ x : UInt8, l[k] = x := ⟨_, rfl⟩
      rw [hx] at hc HN
      clear hx
      obtain ⟨c1, h1⟩ : ∃ c1, c ^^^ x.toNat = c1 := ⟨_, rfl⟩
      have hx256 := x.toNat_lt
      have hl1 : c1 < 4294967296 := by rw [← h1]; exact mix_lt hlc x
      have f1 : Go.bits .xor .u32 (c : Int) (x.toNat : Int) = (c1 : Int) := by rw [u32_xor_nat _ _ (by omega) (by omega), h1]
      have HE : Hid (crc1 c x = CrcMath.bits 8 c1) := Lib.hid (by rw [crc1_bits, h1])
      clear h1
      go_wp2
      go_loop [3, 5] (fun s i => ∃ j : Nat, j ≤ 8 ∧ i = .int .i64 j ∧ s = .int .u32 (CrcMath.bits j c1 : Nat)) (fun _ i => 8 - (intOf i).toNat)
      case atStart => exact ⟨0, Nat.zero_le _, rfl, rfl⟩
      case round =>
        obtain ⟨j, hj, rfl, rfl⟩ := hrel
        by_cases hlt8 : j < 8
        · have hs := bits_succ j c1
          have hbl := bits_lt hl1 j
          obtain ⟨d, hd⟩ : ∃ d, CrcMath.bits j c1 = d := ⟨_, rfl⟩
          rw [hd] at hs hbl ⊢
          have HS := Lib.hid hs
          clear hs hd
          rcases Nat.mod_two_eq_zero_or_one d with hp | hp
          · obtain ⟨g1, g2⟩ := one_even hbl hp
            clear hp
            go_wp2
            go_round
            case rel => exact ⟨j + 1, by omega, by go_num, by rw [HS.out]⟩
            case measure => simp [intOf]; omega
          · obtain ⟨g1, q, g2, g3⟩ := one_odd hbl hp
            clear hp
            go_wp2
            go_round
            case rel => exact ⟨j + 1, by omega, by go_num, by rw [HS.out]⟩
            case measure => simp [intOf]; omega
        · obtain rfl : j = 8 := by omega
          go_wp2
          go_round
          case rel => exact ⟨k + 1, by omega, by go_num, by rw [HN.out, HC.out, HE.out]⟩
          case measure => simp [intOf]; omega
    · have HF := Lib.hid (show crcF l = 4294967295 ^^^ crcG (l.take k) by rw [List.take_of_length_le (by omega)]; rfl)
      have hg := crcG_lt (l.take k)
      go_wp2
      go_ret
      exact ⟨ret_u32 (by rw [HF.out]; exact u32_xor_nat _ _ (by decide) hg), rfl⟩
end Go.Proofs.YtimpnnhadjfijaaDoor
