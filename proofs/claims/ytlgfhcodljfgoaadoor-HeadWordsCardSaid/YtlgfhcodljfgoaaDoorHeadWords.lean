/-
  HeadWords.
-/
import Derived.Test.YtlgfhcodljfgoaaDoorHeadKnown
namespace Go.Proofs.YtlgfhcodljfgoaaDoor
open Go.RowKit HeadMath

theorem small_small (c : UInt8) : small (small c) = small c := by
  by_cases h : 65 ≤ c.toNat ∧ c.toNat ≤ 90
  · have h1 := small_up h
    exact small_other (by rw [h1]; omega)
  · rw [small_other h, small_other h]
theorem lowF_lowF (l : List UInt8) : lowF (lowF l) = lowF l := by
  unfold lowF
  rw [List.map_map]
  congr 1
  funext c
  exact small_small c
theorem sameF_low (l : List UInt8) : sameF l (lowF l) = true := by
  unfold sameF
  rw [lowF_lowF]; simp
theorem bool_same (x : Bool) : (x == x) = true := by cases x <;> rfl

set_option maxHeartbeats 4000000 in
theorem words_any (a b : ByteArray) (w : World) :
    Calls Tryd.prog 4 #[.string a, .string b] w fun e w' => e = .returned (.bool true) ∧ Below w.heap.size w w' := by
  by_cases h1 : (300 : Int) < a.size
  · go_enter Tryd.func4, Tryd.ntmps4
    go_wp2_with fail
    refine (known_any _).mono ?_
    rintro e w1 ⟨rfl, hb1⟩
    go_wp2
    go_ret
    exact ⟨rfl, hb1⟩
  · by_cases h2 : (300 : Int) < b.size
    · go_enter Tryd.func4, Tryd.ntmps4
      go_wp2_with fail
      refine (known_any _).mono ?_
      rintro e w1 ⟨rfl, hb1⟩
      go_wp2
      go_ret
      exact ⟨rfl, hb1⟩
    · have ha : a.size ≤ 140737488351232 := by omega
      have hb : b.size ≤ 140737488351232 := by omega
      obtain ⟨t1, ht1⟩ : ∃ t, tokenF a.data.toList = t := ⟨_, rfl⟩
      obtain ⟨t2, ht2⟩ : ∃ t, valueF a.data.toList = t := ⟨_, rfl⟩
      obtain ⟨t3, ht3⟩ : ∃ t, sameF a.data.toList b.data.toList = t := ⟨_, rfl⟩
      have q1 := bool_same t1
      have q2 := bool_same t2
      have q3 := bool_same t3
      have H1 := Lib.hid ht1
      have H2 := Lib.hid ht2
      have H3 := Lib.hid ht3
      have H4 := Lib.hid (sameF_low a.data.toList)
      have hl : (⟨(lowF a.data.toList).toArray⟩ : ByteArray).size ≤ 140737488351232 := by rw [size_low]; exact ha
      obtain ⟨lo, hlo⟩ : ∃ lo, (⟨(lowF a.data.toList).toArray⟩ : ByteArray) = lo := ⟨_, rfl⟩
      rw [hlo] at hl
      have HLO := Lib.hid hlo
      have H5 := Lib.hid (show sameF a.data.toList lo.data.toList = true from by rw [← hlo]; exact H4.out)
      clear ht1 ht2 ht3 hlo
      go_enter Tryd.func4, Tryd.ntmps4
      go_wp2_with fail
      refine (known_any _).mono ?_
      rintro e w1 ⟨rfl, hb1⟩
      go_wp2_with fail
      refine (token_any _ _ ha).mono ?_
      rintro e w2 ⟨rfl, rfl⟩
      rw [H1.out]
      go_wp2_with fail
      refine (refToken_any _ _ ha).mono ?_
      rintro e w2 ⟨rfl, rfl⟩
      rw [H1.out]
      go_wp2_with fail
      refine (value_any _ _ ha).mono ?_
      rintro e w2 ⟨rfl, hb2⟩
      replace hb1 := hb1.trans (hb2.mono hb1.size)
      clear hb2
      rw [H2.out]
      go_wp2_with fail
      refine (refValue_any _ _ ha).mono ?_
      rintro e w3 ⟨rfl, rfl⟩
      rw [H2.out]
      go_wp2_with fail
      refine (same_any _ _ _ ha hb).mono ?_
      rintro e w3 ⟨m, rfl, rfl⟩
      rw [H3.out]
      replace hb1 := below_drewN hb1 m
      go_wp2_with fail
      refine (refSame_any _ _ _ ha hb).mono ?_
      rintro e w4 ⟨rfl, hb2⟩
      replace hb1 := hb1.trans (hb2.mono hb1.size)
      clear hb2
      rw [H3.out]
      go_wp2_with fail
      refine (refLow_any _ _ ha).mono ?_
      rintro e w5 ⟨rfl, hb2⟩
      replace hb1 := hb1.trans (hb2.mono hb1.size)
      clear hb2
      rw [HLO.out]
      go_wp2_with fail
      refine (same_any _ _ _ ha hl).mono ?_
      rintro e w6 ⟨m6, rfl, rfl⟩
      rw [H5.out]
      replace hb1 := below_drewN hb1 m6
      go_wp2
      go_ret
      exact ⟨rfl, hb1⟩
end Go.Proofs.YtlgfhcodljfgoaaDoor
