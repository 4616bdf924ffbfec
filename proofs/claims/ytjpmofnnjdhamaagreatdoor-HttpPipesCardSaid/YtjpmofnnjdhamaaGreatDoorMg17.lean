/-
  The number that a text is.
-/
import Derived.Test.YtjpmofnnjdhamaaGreatDoorProg
import Derived.LoopTactic
import Derived.Outline
import Derived.WalkSpells
import Derived.WalkLawsBesides
import Derived.IntWalk
import Derived.Laws.BitsAllLaws
import Derived.Deep.QuietTactic
import Derived.BigQuiet
import Derived.Laws.IdiomStrings
import Derived.Laws.BytesString
import Derived.Test.YtjpmofnnjdhamaaGreatDoorShelf
import Derived.Lib.Hide
import Derived.Deep.MidRow
import Derived.Lib.Itoa
import Derived.Defers
import Derived.Laws.Pointers
import Derived.Laws.LoneSync
import Derived.RegionTactic
import Derived.RegionCalls
import Derived.ChangeAlike
import Derived.Deep.RegionHeld3
import Derived.Lib.Fields
import Derived.Lib.LaidTab
import Derived.Test.YtjpmofnnjdhamaaGreatDoorMg2
import Derived.Test.YtjpmofnnjdhamaaGreatDoorMg14
import Derived.Test.YtjpmofnnjdhamaaGreatDoorMg16
namespace Go.Proofs.YtjpmofnnjdhamaaGreatDoor
open Go.RowKit DateMath

set_option maxHeartbeats 4000000 in
theorem digD_any (c : UInt8) (w : World) : Calls Tryz.prog 70 #[.int .u8 c.toNat] w fun e w' => e = .returned (.bool (digitD c)) ∧ w' = w := by
  have hl := c.toNat_lt
  have hd : digitD c = decide (48 ≤ c.toNat ∧ c.toNat ≤ 57) := rfl
  obtain ⟨n, hn⟩ : ∃ n, c.toNat = n := ⟨_, rfl⟩
  rw [hn] at hl hd ⊢
  have HD := Lib.hid hd
  clear hd hn
  by_cases h1 : 48 ≤ n
  · have d1 : decide (48 ≤ (n : Int)) = true := by simpa using (by omega : (48 : Int) ≤ n)
    by_cases h2 : n ≤ 57
    · have d2 : decide ((n : Int) ≤ 57) = true := by simpa using (by omega : (n : Int) ≤ 57)
      go_enter Tryz.func70, Tryz.ntmps70
      go_wp2
      go_ret
      exact ⟨by rw [HD.out]; simp [h1, h2], rfl⟩
    · have d2 : decide ((n : Int) ≤ 57) = false := by simpa using (by omega : (57 : Int) < n)
      go_enter Tryz.func70, Tryz.ntmps70
      go_wp2
      go_ret
      exact ⟨by rw [HD.out]; simp [h2], rfl⟩
  · have d1 : decide (48 ≤ (n : Int)) = false := by simpa using (by omega : (n : Int) < 48)
    go_enter Tryz.func70, Tryz.ntmps70
    go_wp2
    go_ret
    exact ⟨by rw [HD.out]; simp [h1], rfl⟩
theorem valD_snoc (l : Bs) (c : UInt8) : valD (l ++ [c]) = valD l * 10 + (c.toNat - 48) := by unfold valD; rw [List.foldl_append]; rfl
theorem foldD_lt : ∀ (l : Bs) (n : Nat), l.all digitD = true → l.foldl (fun n c => n * 10 + (c.toNat - 48)) n < (n + 1) * 10 ^ l.length
  | [], n, _ => by simp
  | c :: l, n, h => by
    rw [List.all_cons, Bool.and_eq_true] at h
    have ih := foldD_lt l (n * 10 + (c.toNat - 48)) h.2
    have hc := h.1
    unfold digitD at hc
    rw [decide_eq_true_iff] at hc
    rw [List.foldl_cons, List.length_cons, Nat.pow_succ]
    have h2 : (n * 10 + (c.toNat - 48) + 1) * 10 ^ l.length ≤ ((n + 1) * 10) * 10 ^ l.length := Nat.mul_le_mul_right _ (by omega)
    have e : (n + 1) * (10 ^ l.length * 10) = ((n + 1) * 10) * 10 ^ l.length := by rw [Nat.mul_comm (10 ^ l.length) 10, Nat.mul_assoc]
    omega
theorem valD_lt (l : Bs) (h : l.all digitD = true) : valD l < 10 ^ l.length := by
  have := foldD_lt l 0 h
  unfold valD
  omega
theorem take_snocD (s : ByteArray) (k : Nat) (h : k < s.size) : s.data.toList.take (k + 1) = s.data.toList.take k ++ [s[k]] := by
  rw [List.take_succ_eq_append_getElem (by simpa using h)]; rfl
def numV (o : Option Nat) : Value := .tuple #[.int .i64 (o.getD 0 : Nat), .bool o.isSome]
set_option maxRecDepth 100000 in
set_option maxHeartbeats 4000000 in
theorem numberD_any (s : ByteArray) (most : Nat) (w : World) (hm : most ≤ 18) (hs : s.size ≤ 9223372036854775807) : Calls Tryz.prog 79 #[.string s, .int .i64 most] w fun e w' => e = .returned (numV (numF s.data.toList most)) ∧ w' = w := by
  have hl : s.data.toList.length = s.size := by simp
  have HN : Hid (numF s.data.toList most = if s.size ≠ 0 ∧ s.size ≤ most ∧ s.data.toList.all digitD = true then some (valD s.data.toList) else none) := Lib.hid (by unfold numF; rw [hl])
  by_cases h0 : s.size = 0
  · have e0 : (((s.size : Nat) : Int) == 0) = true := by rw [h0]; rfl
    have HE : Hid (numF s.data.toList most = none) := Lib.hid (by rw [HN.out, if_neg (fun h => h.1 h0)])
    clear h0
    go_enter Tryz.func79, Tryz.ntmps79
    go_wp2
    go_ret2
    exact ⟨by rw [HE.out]; rfl, rfl⟩
  by_cases h1 : most < s.size
  · have e0 : (((s.size : Nat) : Int) == 0) = false := by simpa using (by omega : ¬ (s.size : Int) = 0)
    have HE : Hid (numF s.data.toList most = none) := Lib.hid (by rw [HN.out, if_neg (fun h => by omega)])
    have e1 : decide ((most : Int) < (s.size : Int)) = true := by simpa using (by omega : (most : Int) < s.size)
    have e2 : decide (most < s.size) = true := by simpa using h1
    go_enter Tryz.func79, Tryz.ntmps79
    go_wp2
    go_ret2
    exact ⟨by rw [HE.out]; rfl, rfl⟩
  have e0 : (((s.size : Nat) : Int) == 0) = false := by simpa using (by omega : ¬ (s.size : Int) = 0)
  have e1 : decide ((most : Int) < (s.size : Int)) = false := by simpa using (by omega : (s.size : Int) ≤ most)
  have e2 : decide (most < s.size) = false := by simpa using h1
  have hs18 : s.size ≤ 18 := by omega
  have HA : Hid (numF s.data.toList most = if s.data.toList.all digitD = true then some (valD s.data.toList) else none) := Lib.hid (by
    rw [HN.out]
    by_cases h : s.data.toList.all digitD = true
    · rw [if_pos h, if_pos ⟨h0, by omega, h⟩]
    · rw [if_neg h, if_neg (fun h' => h h'.2.2)])
  clear HN h0 h1
  go_enter Tryz.func79, Tryz.ntmps79
  go_wp2
  go_loop [6, 19] (fun n i => ∃ k : Nat, k ≤ s.size ∧ i = .int .i64 k ∧ n = .int .i64 (valD (s.data.toList.take k)) ∧ Hid ((s.data.toList.take k).all digitD = true)) (fun _ i => s.size - (intOf i).toNat)
  case atStart => exact ⟨0, Nat.zero_le _, rfl, rfl, Lib.hid rfl⟩
  case round =>
    obtain ⟨k, hk, rfl, rfl, HK⟩ := hrel
    by_cases hlt : k < s.size
    · have hts := take_snocD s k hlt
      have hb := valD_lt _ HK.out
      have hkl : (s.data.toList.take k).length = k := by rw [List.length_take]; omega
      rw [hkl] at hb
      have hp : (10 : Nat) ^ k ≤ 10 ^ 17 := Nat.pow_le_pow_right (by decide) (by omega)
      have hv : valD (s.data.toList.take k) ≤ 99999999999999999 := by
        rw [show (10 : Nat) ^ 17 = 100000000000000000 from by decide] at hp
        omega
      have hsn := valD_snoc (s.data.toList.take k) s[k]
      have hc := s[k].toNat_lt
      have CD : Hid (∀ w, Calls Tryz.prog 70 #[.int .u8 s[k].toNat] w fun e w' => e = .returned (.bool (digitD s[k])) ∧ w' = w) := Lib.hid (fun w => digD_any s[k] w)
      have HT : Hid (valD (s.data.toList.take (k + 1)) = valD (s.data.toList.take k) * 10 + (s[k].toNat - 48)) := Lib.hid (by rw [hts, hsn])
      have HTA : Hid ((s.data.toList.take (k + 1)).all digitD = ((s.data.toList.take k).all digitD && digitD s[k])) := Lib.hid (by rw [hts]; simp)
      have hdd : digitD s[k] = decide (48 ≤ s[k].toNat ∧ s[k].toNat ≤ 57) := rfl
      have hmem : s[k] ∈ s.data.toList := List.mem_iff_getElem.2 ⟨k, by omega, by simp; rfl⟩
      obtain ⟨V, hV⟩ : ∃ V, valD (s.data.toList.take k) = V := ⟨_, rfl⟩
      rw [hV] at hv HT ⊢
      clear hts hb hkl hp hsn hV
      by_cases hd : digitD s[k] = true
      · have hd2 := hd
        rw [hdd, decide_eq_true_iff] at hd2
        have CT : Hid (∀ w, Calls Tryz.prog 70 #[.int .u8 s[k].toNat] w fun e w' => e = .returned (.bool true) ∧ w' = w) := Lib.hid (fun w => hd ▸ CD.out w)
        have HTA2 : Hid ((s.data.toList.take (k + 1)).all digitD = true) := Lib.hid (by rw [HTA.out, HK.out, hd]; rfl)
        have g1 : (48 : Int) ≤ (s[k].toNat : Int) := by omega
        have g2 : (s[k].toNat : Int) ≤ 57 := by omega
        clear hd hdd hd2 CD hmem
        go_wp2_with fail
        refine (CT.out w).mono ?_
        rintro e w' ⟨rfl, rfl⟩
        go_wp2
        go_round
        case rel => exact ⟨k + 1, by omega, by go_num, by rw [HT.out]; congr 1; omega, HTA2⟩
        case measure => simp [intOf]; omega
      · have hd' : digitD s[k] = false := by simpa using hd
        have CT : Hid (∀ w, Calls Tryz.prog 70 #[.int .u8 s[k].toNat] w fun e w' => e = .returned (.bool false) ∧ w' = w) := Lib.hid (fun w => hd' ▸ CD.out w)
        have HE : Hid (numF s.data.toList most = none) := Lib.hid (by
          rw [HA.out, if_neg]
          intro h
          have := List.all_eq_true.1 h _ hmem
          rw [hd'] at this
          cases this)
        clear hd hdd hd' CD hmem
        go_wp2_with fail
        refine (CT.out w).mono ?_
        rintro e w' ⟨rfl, rfl⟩
        go_wp2
        go_ret2
        exact ⟨by rw [HE.out]; rfl, rfl⟩
    · obtain rfl : k = s.size := by omega
      have ht : s.data.toList.take s.size = s.data.toList := List.take_of_length_le (by omega)
      rw [ht] at HK ⊢
      have HE : Hid (numF s.data.toList most = some (valD s.data.toList)) := Lib.hid (by rw [HA.out, if_pos HK.out])
      clear ht
      go_wp2
      go_ret2
      exact ⟨by rw [HE.out]; rfl, rfl⟩
end Go.Proofs.YtjpmofnnjdhamaaGreatDoor
