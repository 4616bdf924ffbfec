/-
  A number read, inside a Reader.
-/
import Derived.Test.YtekdkaiammebnaaDoorCodeReader
namespace Go.Proofs.YtekdkaiammebnaaDoor
open Go.RowKit CodeMath

/-- What a call inside the Reader answers, or that it falls. -/
def NumPost (F : Nat → Prop) (p : Nat) (r : Option (Nat × List UInt8)) (w : World) (e : Ending) (w' : World) : Prop :=
  (match r with
    | some (n, t) => e = .returned (.int .u64 n) ∧ IsR F p t false w'
    | none => e = .panicked [{ v := .iface 71 (.agg #[]), recovered := false }] ∧ ∃ l f, IsR F p l f w') ∧ Spares (fun b => b = p) w w'

theorem num_step (m c k : Nat) (hm : m < 2 ^ (7 * k)) (hk : k ≤ 9) (hc : c < 256) (h9 : k = 9 → c ≤ 1) :
    ∃ q s m' : Nat, Go.bits .and .u8 (c : Int) 127 = (q : Int) ∧ IntKind.u64.wrap (q : Int) = (q : Int) ∧ IntKind.u64.wrap ((q : Int) * 2 ^ (7 * k)) = (s : Int) ∧ Go.bits .or .u64 (m : Int) (s : Int) = (m' : Int) ∧ m' = m + c % 128 * 2 ^ (7 * k) ∧ m' < 2 ^ (7 * (k + 1)) ∧ U64 m' := by
  have hq : c % 128 < 128 := Nat.mod_lt _ (by omega)
  have hp : 2 ^ (7 * (k + 1)) = 128 * 2 ^ (7 * k) := by rw [show 7 * (k + 1) = 7 + 7 * k by omega, Nat.pow_add]
  have hs : c % 128 * 2 ^ (7 * k) + 2 ^ (7 * k) ≤ 2 ^ (7 * (k + 1)) := by
    rw [hp, ← Nat.succ_mul]; exact Nat.mul_le_mul_right _ (by omega)
  have h63 : k < 9 → 2 ^ (7 * (k + 1)) ≤ 9223372036854775808 := by
    intro h
    exact Nat.pow_le_pow_right (n := 2) (by omega) (show 7 * (k + 1) ≤ 63 by omega)
  have hs64 : c % 128 * 2 ^ (7 * k) + 2 ^ (7 * k) ≤ 18446744073709551616 := by
    rcases Nat.lt_or_ge k 9 with h | h
    · have := h63 h; omega
    · obtain rfl : k = 9 := by omega
      have := h9 rfl
      have e : (2 : Nat) ^ (7 * 9) = 9223372036854775808 := by decide
      rw [e]
      rcases Nat.le_one_iff_eq_zero_or_eq_one.1 this with rfl | rfl <;> simp
  have h0 : 0 < 2 ^ (7 * k) := Nat.pow_pos (by omega)
  have ho : m ||| c % 128 * 2 ^ (7 * k) = m + c % 128 * 2 ^ (7 * k) := by
    rw [Nat.or_comm, Nat.add_comm]
    exact nat_join (7 * k) _ _ (Nat.mul_mod_left _ _) hm
  refine ⟨c % 128, c % 128 * 2 ^ (7 * k), m + c % 128 * 2 ^ (7 * k), ?_, ?_, ?_, ?_, rfl, by omega, by unfold U64; omega⟩
  · have := u8_and_nat c 127 hc (by omega)
    rw [nat_mask7] at this
    exact this
  · rw [IntKind.wrap_u64]; omega
  · rw [show ((c % 128 : Nat) : Int) * 2 ^ (7 * k) = ((c % 128 * 2 ^ (7 * k) : Nat) : Int) by simp]
    rw [IntKind.wrap_u64]; omega
  · rw [u64_or_nat _ _ (by omega) (by omega), ho]

theorem numR_bad {k m : Nat} {c : UInt8} {t : List UInt8} (hk : k = 9) (hc : 1 < c.toNat) : numR (10 - k) m (c :: t) = none := by
  subst hk; rw [show 10 - 9 = 0 + 1 from rfl, numR, if_pos ⟨rfl, hc⟩]
theorem numR_empty (k m : Nat) : numR (10 - k) m [] = none := by cases 10 - k <;> rfl
theorem numR_zero {k m : Nat} {c : UInt8} {t : List UInt8} (hk : k ≤ 9) (h0 : 0 < k) (hc : c.toNat = 0) : numR (10 - k) m (c :: t) = none := by
  rw [show 10 - k = (9 - k) + 1 by omega, numR, if_neg (by omega), if_pos (by omega), if_pos (by omega)]
theorem numR_end {k m : Nat} {c : UInt8} {t : List UInt8} (hk : k ≤ 9) (hc : c.toNat < 128) (h9 : k = 9 → c.toNat ≤ 1) (h0 : k = 0 ∨ 0 < c.toNat) : numR (10 - k) m (c :: t) = some (m + c.toNat % 128 * 2 ^ (7 * k), t) := by
  rw [show 10 - k = (9 - k) + 1 by omega, numR, if_neg (by omega), if_pos hc, if_neg (by omega), show 9 - (9 - k) = k by omega]
theorem numR_more {k m : Nat} {c : UInt8} {t : List UInt8} (hk : k < 9) (hc : 128 ≤ c.toNat) : numR (10 - k) m (c :: t) = numR (10 - (k + 1)) (m + c.toNat % 128 * 2 ^ (7 * k)) t := by
  rw [show 10 - k = (9 - k) + 1 by omega, numR, if_neg (by omega), if_neg (by omega), show 9 - (9 - k) = k by omega, show 10 - (k + 1) = 9 - k by omega]

set_option maxRecDepth 100000 in
set_option maxHeartbeats 1000000 in
theorem num_any (F : Nat → Prop) (p : Nat) (l : List UInt8) (w : World) (h : IsR F p l false w) (hl : l.length ≤ 140737488355328) :
    Calls Tryd.prog 34 #[.pointer (some ⟨p, 0, none⟩)] w (NumPost F p (numR 10 0 l) w) := by
  have H := Lib.hid h
  clear h
  go_enter Tryd.func34, Tryd.ntmps34
  go_wp2
  go_loopw [3, 6] (fun n i wr => ∃ (k m : Nat) (l' : List UInt8), k ≤ 9 ∧ i = .int .i64 k ∧ n = .int .u64 m ∧ Hid (m < 2 ^ (7 * k) ∧ numR 10 0 l = numR (10 - k) m l') ∧ l'.length ≤ l.length ∧ Hid (IsR F p l' false wr) ∧ Hid (Spares (fun b => b = p) w wr)) (fun _ i _ => 10 - (intOf i).toNat)
  case atStart => exact ⟨0, 0, l, by omega, rfl, rfl, Lib.hid ⟨by omega, rfl⟩, Nat.le_refl _, H, Lib.hid (Spares.refl _ _)⟩
  case round =>
    obtain ⟨k, m, l', hk, rfl, rfl, HM, hl', HW, HS⟩ := hrel
    cases l' with
    | nil =>
      have HE : Hid (numR 10 0 l = none) := Lib.hid (HM.out.2.trans (numR_empty k m))
      go_wp2_with fail
      refine (next_none F p [] false _ HW.out (.inr rfl)).mono ?_
      rintro e w1 ⟨rfl, rfl⟩
      go_wp2
      exact ⟨rfl, by rw [HE.out]; exact ⟨rfl, _, _, HW.out⟩, HS.out⟩
    | cons c t =>
      have hcl := c.toNat_lt
      have htl : t.length ≤ l.length := by simp at hl'; omega
      go_wp2_with fail
      refine (next_some F p c t _ HW.out (by omega)).mono ?_
      rintro e w1 ⟨rfl, h1, hs1⟩
      have HW1 := Lib.hid h1
      have HS1 := Lib.hid (HS.out.trans hs1)
      clear h1 hs1
      by_cases hb : k = 9 ∧ 1 < c.toNat
      · have HE : Hid (numR 10 0 l = none) := Lib.hid (HM.out.2.trans (numR_bad hb.1 hb.2))
        obtain ⟨rfl, hb2⟩ := hb
        go_wp2
        exact ⟨rfl, by rw [HE.out]; exact ⟨rfl, _, _, HW1.out⟩, HS1.out⟩
      · have hb9 : k = 9 → c.toNat ≤ 1 := fun e => by omega
        obtain ⟨q, s, m', g1, g2, g3, g4, g5, g6, g7⟩ := num_step m c.toNat k HM.out.1 hk (by omega) hb9
        by_cases hc : c.toNat < 128
        · by_cases h0 : 0 < k ∧ c.toNat = 0
          · have HE : Hid (numR 10 0 l = none) := Lib.hid (HM.out.2.trans (numR_zero hk h0.1 h0.2))
            obtain ⟨h0a, h0b⟩ := h0
            clear g1 g2 g3 g4 g5 g6 g7 hb hb9
            go_wp2
            all_goals exact ⟨rfl, by rw [HE.out]; exact ⟨rfl, _, _, HW1.out⟩, HS1.out⟩
          · have HE : Hid (numR 10 0 l = some (m', t)) := Lib.hid (by rw [g5]; exact HM.out.2.trans (numR_end hk hc hb9 (by omega)))
            clear g5 g6 g7
            by_cases hk9 : k = 9
            · have hc1 : c.toNat = 1 := by have := hb9 hk9; omega
              have k1 : ((k : Int) == 9) = true := by rw [hk9]; rfl
              clear hb hb9 h0 hk9 hk
              have HC := Lib.hid hc1
              have c2 : ((c.toNat : Int) == 0) = false := by rw [hc1]; rfl
              have c3 : decide ((1 : Int) < (c.toNat : Int)) = false := by rw [hc1]; rfl
              clear hc1
              go_wp2
              go_ret
              exact ⟨by rw [HE.out]; exact ⟨rfl, HW1.out⟩, HS1.out⟩
            · have hk8 : (k : Int) < 9 := by omega
              clear hb hb9 hk9
              by_cases hz : c.toNat = 0
              · have hk0 : k = 0 := by omega
                have k1 : ((k : Int) == 9) = false := by rw [hk0]; rfl
                have k2 : decide (0 < k) = false := by rw [hk0]; rfl
                clear h0 hk8 hk0
                have c2 : ((c.toNat : Int) == 0) = true := by rw [hz]; rfl
                clear hz
                go_wp2
                go_ret
                exact ⟨by rw [HE.out]; exact ⟨rfl, HW1.out⟩, HS1.out⟩
              · have c2 : ((c.toNat : Int) == 0) = false := by simpa using hz
                clear h0 hz
                go_wp2
                go_ret
                exact ⟨by rw [HE.out]; exact ⟨rfl, HW1.out⟩, HS1.out⟩
        · have hk8 : (k : Int) < 9 := by omega
          have HE : Hid (m' < 2 ^ (7 * (k + 1)) ∧ numR 10 0 l = numR (10 - (k + 1)) m' t) := Lib.hid ⟨g6, by rw [g5]; exact HM.out.2.trans (numR_more (by omega) (by omega))⟩
          clear g5 g6 g7 hb hb9
          go_wp2
          go_roundw
          case rel => exact ⟨k + 1, m', t, by omega, by go_num, rfl, HE, htl, HW1, HS1⟩
          case measure => simp [intOf]; omega
end Go.Proofs.YtekdkaiammebnaaDoor
