/-
  The reference's numbers.
-/
import Derived.StillTailTactics
import Derived.Test.YtkbcklaloblmeaaGreatDoorMg1
import Derived.Test.YtkbcklaloblmeaaGreatDoorMg11
import Derived.Test.YtkbcklaloblmeaaGreatDoorMg15
namespace Go.Proofs.YtkbcklaloblmeaaGreatDoor
open Go.RowKit LineMath ChunkS NormS DateMath

set_option maxRecDepth 100000 in
set_option maxHeartbeats 4000000 in
theorem refNum_any (s : ByteArray) (w : World) (hs : s.size ≤ 9223372036854775807) : Calls Tryz.prog 66 #[.string s, .int .i64 9] w fun e w' => e = .returned (numV (numF s.data.toList 9)) ∧ w' = w := by
  have hl : s.data.toList.length = s.size := by simp
  have HN : Hid (numF s.data.toList 9 = if s.size ≠ 0 ∧ s.size ≤ 9 ∧ s.data.toList.all digitD = true then some (valD s.data.toList) else none) := Lib.hid (by unfold numF; rw [hl])
  by_cases h0 : s.size = 0
  · have e0 : s.toList.isEmpty = true := by rw [Lib.toList_data, List.isEmpty_iff]; exact List.eq_nil_of_length_eq_zero (by omega)
    have HE : Hid (numF s.data.toList 9 = none) := Lib.hid (by rw [HN.out, if_neg (fun h => h.1 h0)])
    clear h0
    go_enter Tryz.func66, Tryz.ntmps66
    go_wp2
    go_ret2
    exact ⟨by rw [HE.out]; rfl, rfl⟩
  have e0 : s.toList.isEmpty = false := by
    rw [Lib.toList_data]
    cases hq : s.data.toList with
    | nil => rw [hq] at hl; exact absurd hl.symm h0
    | cons c t => rfl
  by_cases h1 : 9 < s.size
  · have HE : Hid (numF s.data.toList 9 = none) := Lib.hid (by rw [HN.out, if_neg (fun h => by omega)])
    have e1 : (9 : Int) < (s.size : Int) := by omega
    go_enter Tryz.func66, Tryz.ntmps66
    go_wp2
    go_ret2
    exact ⟨by rw [HE.out]; rfl, rfl⟩
  have e1 : ¬ (9 : Int) < (s.size : Int) := by omega
  have hs18 : s.size ≤ 18 := by omega
  have HA : Hid (numF s.data.toList 9 = if s.data.toList.all digitD = true then some (valD s.data.toList) else none) := Lib.hid (by
    rw [HN.out]
    by_cases h : s.data.toList.all digitD = true
    · rw [if_pos h, if_pos ⟨h0, by omega, h⟩]
    · rw [if_neg h, if_neg (fun h' => h h'.2.2)])
  clear HN h0
  go_enter Tryz.func66, Tryz.ntmps66
  go_wp2
  go_loop [6, 7] (fun n i => ∃ k : Nat, k ≤ s.size ∧ i = .int .i64 k ∧ n = .int .i64 (valD (s.data.toList.take k)) ∧ Hid ((s.data.toList.take k).all digitD = true)) (fun _ i => s.size - (intOf i).toNat)
  case atStart => exact ⟨0, Nat.zero_le _, rfl, rfl, Lib.hid rfl⟩
  case round =>
    obtain ⟨k, hk, rfl, rfl, HK⟩ := hrel
    by_cases hlt : k < s.size
    · have hts := take_snocD s k hlt
      have hb := valD_lt _ HK.out
      have hkl : (s.data.toList.take k).length = k := by rw [List.length_take]; omega
      rw [hkl] at hb
      have hp : (10 : Nat) ^ k ≤ 10 ^ 17 := Nat.pow_le_pow_right (by decide) (by omega)
      have hv : valD (s.data.toList.take k) ≤ 99999999999999999 := by
        rw [show (10 : Nat) ^ 17 = 100000000000000000 from by decide] at hp
        omega
      have hsn := valD_snoc (s.data.toList.take k) s[k]
      have hc := s[k].toNat_lt
      have HT : Hid (valD (s.data.toList.take (k + 1)) = valD (s.data.toList.take k) * 10 + (s[k].toNat - 48)) := Lib.hid (by rw [hts, hsn])
      have HTA : Hid ((s.data.toList.take (k + 1)).all digitD = ((s.data.toList.take k).all digitD && digitD s[k])) := Lib.hid (by rw [hts]; simp)
      have hdd : digitD s[k] = decide (48 ≤ s[k].toNat ∧ s[k].toNat ≤ 57) := rfl
      have hmem : s[k] ∈ s.data.toList := List.mem_iff_getElem.2 ⟨k, by omega, by simp; rfl⟩
      obtain ⟨V, hV⟩ : ∃ V, valD (s.data.toList.take k) = V := ⟨_, rfl⟩
      rw [hV] at hv HT ⊢
      clear hts hb hkl hp hsn hV
      by_cases hd : digitD s[k] = true
      · have hd2 := hd
        rw [hdd, decide_eq_true_iff] at hd2
        have HTA2 : Hid ((s.data.toList.take (k + 1)).all digitD = true) := Lib.hid (by rw [HTA.out, HK.out, hd]; rfl)
        have g1 : ¬ (s[k].toNat : Int) < 48 := by omega
        have g2 : ¬ (57 : Int) < (s[k].toNat : Int) := by omega
        clear hd hdd hd2 hmem
        go_wp2
        go_round
        case rel => exact ⟨k + 1, by omega, by go_num, by rw [HT.out]; congr 1; omega, HTA2⟩
        case measure => simp [intOf]; omega
      · have hd' : digitD s[k] = false := by simpa using hd
        have HE : Hid (numF s.data.toList 9 = none) := Lib.hid (by
          rw [HA.out, if_neg]
          intro h
          have := List.all_eq_true.1 h _ hmem
          rw [hd'] at this
          cases this)
        rw [hdd] at hd'
        clear hd hdd hmem
        by_cases g1 : (s[k].toNat : Int) < 48
        · clear hd'
          go_wp2
          go_ret2
          exact ⟨by rw [HE.out]; rfl, rfl⟩
        · have g2 : (57 : Int) < (s[k].toNat : Int) := by
            have := of_decide_eq_false hd'
            omega
          clear hd'
          go_wp2
          go_ret2
          exact ⟨by rw [HE.out]; rfl, rfl⟩
    · obtain rfl : k = s.size := by omega
      have ht : s.data.toList.take s.size = s.data.toList := List.take_of_length_le (by omega)
      rw [ht] at HK ⊢
      have HE : Hid (numF s.data.toList 9 = some (valD s.data.toList)) := Lib.hid (by rw [HA.out, if_pos HK.out])
      clear ht
      go_wp2
      go_ret2
      exact ⟨by rw [HE.out]; rfl, rfl⟩
/-- What the reference's whole answers. -/
def wholeV (l : List UInt8) : Value := .tuple #[.int .i64 ((numF l 9).getD 0 : Nat), .bool (wholeF l).isSome]
set_option maxRecDepth 100000 in
set_option maxHeartbeats 4000000 in
theorem refWhole_any (s : ByteArray) (w : World) (hs : s.size ≤ 9223372036854775807) : Calls Tryz.prog 34 #[.string s] w fun e w' => e = .returned (wholeV s.data.toList) ∧ ∃ n, w' = w.drewN n := by
  have hl : s.data.toList.length = s.size := by simp
  have c := fun w => refNum_any s w hs
  have HW := Lib.hid (whole_eq s.data.toList)
  unfold numV at c
  unfold wholeV
  cases hn : numF s.data.toList 9 with
  | none =>
    rw [hn] at c HW
    have HE : Hid ((wholeF s.data.toList).isSome = false) := Lib.hid (by rw [HW.out]; rfl)
    simp only [Option.getD_none, Option.isSome_none] at c
    clear HW hn
    go_enter Tryz.func34, Tryz.ntmps34
    go_wp2_with fail
    refine (c _).mono ?_
    rintro e w2 ⟨rfl, rfl⟩
    by_cases h1 : s.size = 1
    · have h1' : (s.size : Int) = 1 := by omega
      go_wp2
      go_quiet (fail)
      go_wp2
      go_ret2
      exact ⟨by rw [HE.out]; rfl, _, rfl⟩
    · have h1' : ¬ (s.size : Int) = 1 := by omega
      go_wp2
      go_quiet (fail)
      go_wp2
      go_ret2
      exact ⟨by rw [HE.out]; rfl, _, rfl⟩
  | some n =>
    have h0 : 0 < s.size := by
      unfold numF at hn
      split at hn
      · rename_i h; omega
      · cases hn
    rw [hn] at c HW
    simp only [Option.getD_some, Option.isSome_some] at c
    have hh : s.data.toList.head? = some s[0] := by
      rw [List.head?_eq_getElem?]
      rw [List.getElem?_eq_getElem (by omega)]
      simp; rfl
    have HH := Lib.hid hh
    clear hh hn
    by_cases h1 : s.size = 1
    · have h1' : (s.size : Int) = 1 := by omega
      have HE : Hid ((wholeF s.data.toList).isSome = true) := Lib.hid (by rw [HW.out]; simp only; rw [if_pos (.inl (by omega))]; rfl)
      go_enter Tryz.func34, Tryz.ntmps34
      go_wp2_with fail
      refine (c _).mono ?_
      rintro e w2 ⟨rfl, rfl⟩
      go_wp2
      go_quiet (fail)
      go_wp2
      go_ret2
      exact ⟨by rw [HE.out]; rfl, _, rfl⟩
    · have h1' : ¬ (s.size : Int) = 1 := by omega
      by_cases hz : s[0] = 48
      · have HE : Hid ((wholeF s.data.toList).isSome = false) := Lib.hid (by
          rw [HW.out]; simp only; rw [if_neg (fun h => h.elim (fun h => by omega) (fun h => h (by rw [HH.out, hz])))]; rfl)
        have hz' : (s[0].toNat : Int) = 48 := by rw [hz]; rfl
        clear hz
        go_enter Tryz.func34, Tryz.ntmps34
        go_wp2_with fail
        refine (c _).mono ?_
        rintro e w2 ⟨rfl, rfl⟩
        go_wp2
        go_quiet (fail)
        go_wp2
        go_ret2
        exact ⟨by rw [HE.out]; simp; omega, _, rfl⟩
      · have HE : Hid ((wholeF s.data.toList).isSome = true) := Lib.hid (by
          rw [HW.out]; simp only; rw [if_pos (.inr (fun h => hz (by rw [HH.out] at h; exact Option.some.inj h)))]; rfl)
        have hz' : ¬ (s[0].toNat : Int) = 48 := by
          intro h
          exact hz (UInt8.toNat_inj.1 (by have : (48 : UInt8).toNat = 48 := rfl; omega))
        clear hz
        go_enter Tryz.func34, Tryz.ntmps34
        go_wp2_with fail
        refine (c _).mono ?_
        rintro e w2 ⟨rfl, rfl⟩
        go_wp2
        go_quiet (fail)
        go_wp2
        go_ret2
        exact ⟨by rw [HE.out]; simp [hz'], _, rfl⟩
end Go.Proofs.YtkbcklaloblmeaaGreatDoor
