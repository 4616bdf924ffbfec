/-
  The reference's two digits, and the number of digits.
-/
import Derived.Test.YtfnpncmdeimcbaaDoorDateRefCal
namespace Go.Proofs.YtfnpncmdeimcbaaDoor
open Go.RowKit DateMath

theorem digit_cut (a : Nat) (h : a ≤ 9) : (⟨#[48, 49, 50, 51, 52, 53, 54, 55, 56, 57]⟩ : ByteArray).extract a (a + 1) = arrD [dig a] := by
  match a, h with
  | 0, _ => rfl
  | 1, _ => rfl
  | 2, _ => rfl
  | 3, _ => rfl
  | 4, _ => rfl
  | 5, _ => rfl
  | 6, _ => rfl
  | 7, _ => rfl
  | 8, _ => rfl
  | 9, _ => rfl
set_option maxRecDepth 100000 in
set_option maxHeartbeats 4000000 in
theorem refTwo_any (n : Nat) (w : World) (hn : n ≤ 9999) : Calls Tryd.prog 24 #[.int .i64 n] w fun e w' => e = .returned (.string (arrD (two2 n))) ∧ ∃ k, w' = w.drewN k := by
  obtain ⟨a, ha⟩ : ∃ a, n / 10 % 10 = a := ⟨_, rfl⟩
  obtain ⟨b, hb⟩ : ∃ b, n % 10 = b := ⟨_, rfl⟩
  have la : a ≤ 9 := by omega
  have lb : b ≤ 9 := by omega
  have HE : Hid (arrD (two2 n) = arrD [dig a] ++ arrD [dig b]) := Lib.hid (by rw [arrD_app]; unfold two2; rw [ha, hb]; rfl)
  have c1 := digit_cut a la
  have c2 := digit_cut b lb
  have z1 : (arrD [dig a]).size = 1 := arrD_size _
  have z2 : (arrD [dig b]).size = 1 := arrD_size _
  obtain ⟨x1, hx1⟩ : ∃ x, arrD [dig a] = x := ⟨_, rfl⟩
  obtain ⟨x2, hx2⟩ : ∃ x, arrD [dig b] = x := ⟨_, rfl⟩
  rw [hx1] at c1 z1 HE
  rw [hx2] at c2 z2 HE
  obtain ⟨X, hX⟩ : ∃ X, x1 ++ x2 = X := ⟨_, rfl⟩
  rw [hX] at HE
  obtain ⟨r1, s1⟩ := add_str hX (by omega)
  have f1 : ((n : Int) / 10).tmod 10 = (a : Int) := by rw [Int.tmod_eq_emod_of_nonneg (by omega)]; omega
  have f2 : ((n : Int)).tmod 10 = (b : Int) := by rw [Int.tmod_eq_emod_of_nonneg (by omega)]; omega
  have f3 : ((n : Int)).tdiv 10 = (n : Int) / 10 := Int.tdiv_eq_ediv_of_nonneg (by omega)
  have p1 : 0 ≤ (a : Int) := by omega
  have p2 : 0 ≤ (b : Int) := by omega
  have p3 : (a : Int) + 1 ≤ 10 := by omega
  have p4 : (b : Int) + 1 ≤ 10 := by omega
  have n1 : ((a : Int) + 1).toNat = a + 1 := by omega
  have n2 : ((b : Int) + 1).toNat = b + 1 := by omega
  have g3 : IntKind.i64.wrap ((n : Int) / 10) = (n : Int) / 10 := wrap_in (by omega) (by omega)
  have g1 : IntKind.i64.wrap ((a : Int) + 1) = (a : Int) + 1 := wrap_k a 1 (by omega) (by decide)
  have g2 : IntKind.i64.wrap ((b : Int) + 1) = (b : Int) + 1 := wrap_k b 1 (by omega) (by decide)
  clear ha hb hx1 hx2 hX z1 z2 la lb
  go_enter Tryd.func24, Tryd.ntmps24
  go_wp2
  go_quiet (fail)
  go_wp2
  go_ret
  exact ⟨by rw [HE.out]; rfl, _, rfl⟩
set_option maxRecDepth 100000 in
set_option maxHeartbeats 4000000 in
theorem refDigits_any (s : ByteArray) (w : World) (hs : s.size ≤ 4) : Calls Tryd.prog 26 #[.string s] w fun e w' => e = .returned (numV (numF s.data.toList 4)) ∧ w' = w := by
  have hl : s.data.toList.length = s.size := by simp
  have HA : Hid (numF s.data.toList 4 = if s.size ≠ 0 ∧ s.data.toList.all digitD = true then some (valD s.data.toList) else none) := Lib.hid (by
    unfold numF
    rw [hl]
    by_cases h : s.size ≠ 0 ∧ s.data.toList.all digitD = true
    · rw [if_pos h, if_pos ⟨h.1, hs, h.2⟩]
    · rw [if_neg h, if_neg (fun h' => h ⟨h'.1, h'.2.2⟩)])
  go_enter Tryd.func26, Tryd.ntmps26
  go_wp2
  go_loop [4, 5] (fun n i => ∃ k : Nat, k ≤ s.size ∧ i = .int .i64 k ∧ n = .int .i64 (valD (s.data.toList.take k)) ∧ Hid ((s.data.toList.take k).all digitD = true)) (fun _ i => s.size - (intOf i).toNat)
  case atStart => exact ⟨0, Nat.zero_le _, rfl, rfl, Lib.hid rfl⟩
  case round =>
    obtain ⟨k, hk, rfl, rfl, HK⟩ := hrel
    by_cases hlt : k < s.size
    · have hts := take_snocD s k hlt
      have hb := valD_lt _ HK.out
      have hkl : (s.data.toList.take k).length = k := by rw [List.length_take]; omega
      rw [hkl] at hb
      have hp : (10 : Nat) ^ k ≤ 10 ^ 4 := Nat.pow_le_pow_right (by decide) (by omega)
      have hv : valD (s.data.toList.take k) ≤ 9999 := by
        rw [show (10 : Nat) ^ 4 = 10000 from by decide] at hp
        omega
      have hsn := valD_snoc (s.data.toList.take k) s[k]
      have hc := s[k].toNat_lt
      have HT : Hid (valD (s.data.toList.take (k + 1)) = valD (s.data.toList.take k) * 10 + (s[k].toNat - 48)) := Lib.hid (by rw [hts, hsn])
      have HTA : Hid ((s.data.toList.take (k + 1)).all digitD = ((s.data.toList.take k).all digitD && digitD s[k])) := Lib.hid (by rw [hts]; simp)
      have hdd : digitD s[k] = decide (48 ≤ s[k].toNat ∧ s[k].toNat ≤ 57) := rfl
      have hmem : s[k] ∈ s.data.toList := List.mem_iff_getElem.2 ⟨k, by omega, by simp; rfl⟩
      obtain ⟨V, hV⟩ : ∃ V, valD (s.data.toList.take k) = V := ⟨_, rfl⟩
      rw [hV] at hv HT ⊢
      clear hts hb hkl hp hsn hV
      by_cases hd : digitD s[k] = true
      · have hd2 := hd
        rw [hdd, decide_eq_true_iff] at hd2
        have HTA2 : Hid ((s.data.toList.take (k + 1)).all digitD = true) := Lib.hid (by rw [HTA.out, HK.out, hd]; rfl)
        have g1 : (48 : Int) ≤ (s[k].toNat : Int) := by omega
        have g2 : (s[k].toNat : Int) ≤ 57 := by omega
        have e1 : decide ((s[k].toNat : Int) < 48) = false := decide_eq_false (by omega)
        have e2 : decide (57 < (s[k].toNat : Int)) = false := decide_eq_false (by omega)
        clear hd hdd hd2 hmem
        go_wp2
        go_round
        case rel => exact ⟨k + 1, by omega, by go_num, by rw [HT.out]; congr 1; omega, HTA2⟩
        case measure => simp [intOf]; omega
      · have hd' : digitD s[k] = false := by simpa using hd
        have HE : Hid (numF s.data.toList 4 = none) := Lib.hid (by
          rw [HA.out, if_neg]
          intro h
          have := List.all_eq_true.1 h.2 _ hmem
          rw [hd'] at this
          cases this)
        have hor : s[k].toNat < 48 ∨ (¬ s[k].toNat < 48 ∧ 57 < s[k].toNat) := by
          have : ¬ (48 ≤ s[k].toNat ∧ s[k].toNat ≤ 57) := fun h => hd (by rw [hdd]; exact decide_eq_true h)
          omega
        clear hd hdd hd' hmem
        rcases hor with h | ⟨h, h'⟩
        · have e1 : decide ((s[k].toNat : Int) < 48) = true := decide_eq_true (by omega)
          clear h
          go_wp2
          go_ret2
          exact ⟨by rw [HE.out]; rfl, rfl⟩
        · have e1 : decide ((s[k].toNat : Int) < 48) = false := decide_eq_false (by omega)
          have e2 : decide (57 < (s[k].toNat : Int)) = true := decide_eq_true (by omega)
          clear h h'
          go_wp2
          go_ret2
          exact ⟨by rw [HE.out]; rfl, rfl⟩
    · obtain rfl : k = s.size := by omega
      have ht : s.data.toList.take s.size = s.data.toList := List.take_of_length_le (by omega)
      rw [ht] at HK ⊢
      by_cases h0 : s.size = 0
      · have HE : Hid (numF s.data.toList 4 = none) := Lib.hid (by rw [HA.out, if_neg (fun h => h.1 h0)])
        have hv0 : valD s.data.toList = 0 := by
          have : s.data.toList = [] := List.eq_nil_of_length_eq_zero (by omega)
          rw [this]; rfl
        have e1 : decide (0 < (s.size : Int)) = false := decide_eq_false (by omega)
        have e2 : decide (0 < s.size) = false := decide_eq_false (by omega)
        have HV0 := Lib.hid hv0
        clear ht h0 hv0
        go_wp2
        go_ret2
        exact ⟨by rw [HE.out, HV0.out]; rfl, rfl⟩
      · have HE : Hid (numF s.data.toList 4 = some (valD s.data.toList)) := Lib.hid (by rw [HA.out, if_pos ⟨h0, HK.out⟩])
        have e1 : decide (0 < (s.size : Int)) = true := decide_eq_true (by omega)
        have e2 : decide (0 < s.size) = true := decide_eq_true (by omega)
        clear ht h0
        go_wp2
        go_ret2
        exact ⟨by rw [HE.out]; rfl, rfl⟩
end Go.Proofs.YtfnpncmdeimcbaaDoor
