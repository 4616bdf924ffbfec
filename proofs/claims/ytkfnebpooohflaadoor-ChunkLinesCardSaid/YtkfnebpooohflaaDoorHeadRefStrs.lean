/-
  Tokens, values, texts that are the same, blanks left out: in the reference.
-/
import Derived.Test.YtkfnebpooohflaaDoorHeadStrs
import Derived.Laws.IdiomStrings
namespace Go.Proofs.YtkfnebpooohflaaDoor.HeadS
open Go.RowKit HeadMath

set_option maxHeartbeats 2000000 in
theorem refToken_any (s : ByteArray) (w : World) (hs : s.size ≤ 140737488351232) : Calls Tryd.prog 14 #[.string s] w fun e w' => e = .returned (.bool (tokenF s.data.toList)) ∧ w = w' := by
  go_enter Tryd.func14, Tryd.ntmps14
  go_wp2
  go_loop [3] (fun i => ∃ k : Nat, k ≤ s.size ∧ i = .int .i64 k ∧ (s.data.toList.take k).all signB = true) (fun i => s.size - (intOf i).toNat)
  case atStart => exact ⟨0, Nat.zero_le _, rfl, rfl⟩
  case round =>
    obtain ⟨k, hk, rfl, hall⟩ := hrel
    have HA := Lib.hid hall
    clear hall
    by_cases hlt : k < s.size
    · have HN := Lib.hid (all_take_succ signB s k hlt)
      cases hl : signB s[k] with
      | true =>
        have HL := Lib.hid hl
        clear hl
        go_wp2_with fail
        refine (sign_any _ _).mono ?_
        rintro e w1 ⟨rfl, rfl⟩
        rw [HL.out]
        go_wp2
        go_round
        case rel => exact ⟨k + 1, by omega, by go_num, by rw [HN.out, HA.out, HL.out]; rfl⟩
        case measure => simp [intOf]; omega
      | false =>
        have HL := Lib.hid hl
        have HS := Lib.hid (show tokenF s.data.toList = false from by
          unfold tokenF
          rw [all_false_at signB s k hlt hl]; rfl)
        clear hl
        go_wp2_with fail
        refine (sign_any _ _).mono ?_
        rintro e w1 ⟨rfl, rfl⟩
        rw [HL.out]
        go_wp2
        go_ret
        exact ⟨ret_bool (by rw [HS.out]), rfl⟩
    · have hks : k = s.size := by omega
      have HE := Lib.hid (show tokenF s.data.toList = (!s.toList.isEmpty) from by
        have := HA.out
        rw [hks, all_take_end] at this
        unfold tokenF
        rw [this, not_empty]; rfl)
      subst hks
      go_wp2
      go_ret
      exact ⟨ret_bool (by rw [HE.out]), rfl⟩

def textF (s : ByteArray) : Bool := s.data.toList.all textB
set_option maxHeartbeats 2000000 in
theorem refText_any (s : ByteArray) (w : World) (hs : s.size ≤ 140737488351232) : Calls Tryd.prog 13 #[.string s] w fun e w' => e = .returned (.bool (textF s)) ∧ w = w' := by
  go_enter Tryd.func13, Tryd.ntmps13
  go_wp2
  go_loop [3] (fun i => ∃ k : Nat, k ≤ s.size ∧ i = .int .i64 k ∧ (s.data.toList.take k).all textB = true) (fun i => s.size - (intOf i).toNat)
  case atStart => exact ⟨0, Nat.zero_le _, rfl, rfl⟩
  case round =>
    obtain ⟨k, hk, rfl, hall⟩ := hrel
    have HA := Lib.hid hall
    clear hall
    by_cases hlt : k < s.size
    · have HN := Lib.hid (all_take_succ textB s k hlt)
      by_cases h32 : (s[k].toNat : Int) < 32
      · by_cases h9 : s[k] = 9
        · have HS := Lib.hid (show textB s[k] = true from by rw [h9]; rfl)
          have q9 : ((s[k].toNat : Int) != 9) = false := by rw [h9]; rfl
          have q127 : ((s[k].toNat : Int) == 127) = false := by rw [h9]; rfl
          clear h9
          go_wp2
          go_round
          case rel => exact ⟨k + 1, by omega, by go_num, by rw [HN.out, HA.out, HS.out]; rfl⟩
          case measure => simp [intOf]; omega
        · have e9 : ((s[k].toNat : Int) == 9) = false := (u8_beq_lit s[k] 9 (by omega)).trans (by simpa using h9)
          have q9 : ((s[k].toNat : Int) != 9) = true := by unfold bne; rw [e9]; rfl
          have HS := Lib.hid (show textF s = false from
            all_false_at textB s k hlt (by unfold textB; rw [show (s[k] == 9) = false from by simpa using h9, decide_eq_true (by omega : s[k].toNat < 32)]; rfl))
          clear h9 e9
          go_wp2
          go_ret
          exact ⟨ret_bool (by rw [HS.out]), rfl⟩
      · have h32' : (32 : Int) ≤ s[k].toNat := by omega
        have q32 : decide ((s[k].toNat : Int) < 32) = false := decide_eq_false h32
        by_cases h127 : s[k] = 127
        · have q127 : ((s[k].toNat : Int) == 127) = true := by rw [h127]; rfl
          have HS := Lib.hid (show textF s = false from all_false_at textB s k hlt (by rw [h127]; rfl))
          clear h127 h32
          go_wp2
          go_ret
          exact ⟨ret_bool (by rw [HS.out]), rfl⟩
        · have q127 : ((s[k].toNat : Int) == 127) = false := (u8_beq_lit s[k] 127 (by omega)).trans (by simpa using h127)
          have HS := Lib.hid (show textB s[k] = true from by
            unfold textB
            rw [decide_eq_false (by omega : ¬ s[k].toNat < 32), show (s[k] == 127) = false from by simpa using h127]; simp)
          clear h127 h32
          go_wp2
          go_round
          case rel => exact ⟨k + 1, by omega, by go_num, by rw [HN.out, HA.out, HS.out]; rfl⟩
          case measure => simp [intOf]; omega
    · have hks : k = s.size := by omega
      have HE := Lib.hid (show textF s = true from by
        have := HA.out
        rwa [hks, all_take_end] at this)
      subst hks
      go_wp2
      go_ret
      exact ⟨ret_bool (by rw [HE.out]), rfl⟩

theorem head_at {s : ByteArray} (h : 0 < s.size) : s.data.toList.head? = some s[0] := by
  have h' : 0 < s.data.toList.length := by rw [size_list]; exact h
  rw [List.head?_eq_getElem?, List.getElem?_eq_getElem h']; rfl
theorem last_at {s : ByteArray} (h : 0 < s.size) : s.data.toList.getLast? = some (s[s.size - 1]'(by omega)) := by
  have h' : s.size - 1 < s.data.toList.length := by rw [size_list]; omega
  rw [List.getLast?_eq_getElem?, size_list, List.getElem?_eq_getElem h']; rfl
theorem valueF_ends {s : ByteArray} (h : 0 < s.size) : valueF s.data.toList = (textF s && (!blankB s[0] && !blankB (s[s.size - 1]'(by omega)))) := by
  unfold valueF textF
  congr 1
  rw [Bool.eq_iff_iff, beq_iff_eq, eq_trimF]
  unfold Bare
  rw [head_at h, last_at h]
  simp
theorem valueF_empty {s : ByteArray} (h : s.size = 0) : valueF s.data.toList = textF s := by
  unfold textF
  have : s.data.toList = [] := List.eq_nil_of_length_eq_zero (by rw [size_list]; exact h)
  rw [this]; rfl

set_option maxHeartbeats 2000000 in
theorem refValue_any (s : ByteArray) (w : World) (hs : s.size ≤ 140737488351232) : Calls Tryd.prog 15 #[.string s] w fun e w' => e = .returned (.bool (valueF s.data.toList)) ∧ w = w' := by
  by_cases hz : s.size = 0
  · have HV := Lib.hid (valueF_empty hz)
    have qe : s.toList.isEmpty = true := by
      have : s.data.toList = [] := List.eq_nil_of_length_eq_zero (by rw [size_list]; exact hz)
      rw [Lib.toList_data, this]; rfl
    cases ht : textF s with
    | true =>
      have HT := Lib.hid ht
      clear ht
      go_enter Tryd.func15, Tryd.ntmps15
      go_wp2_with fail
      refine (refText_any s _ hs).mono ?_
      rintro e w1 ⟨rfl, rfl⟩
      rw [HT.out]
      go_wp2
      go_ret
      exact ⟨ret_bool (by rw [HV.out, HT.out]), rfl⟩
    | false =>
      have HT := Lib.hid ht
      clear ht
      go_enter Tryd.func15, Tryd.ntmps15
      go_wp2_with fail
      refine (refText_any s _ hs).mono ?_
      rintro e w1 ⟨rfl, rfl⟩
      rw [HT.out]
      go_wp2
      go_ret
      exact ⟨ret_bool (by rw [HV.out, HT.out]), rfl⟩
  · have hpos : 0 < s.size := by omega
    have hlast : s.size - 1 < s.size := by omega
    have HV := Lib.hid (valueF_ends hpos)
    have qe : s.toList.isEmpty = false := by
      have h1 := head_at hpos
      rw [Lib.toList_data]
      cases h : s.data.toList with
      | nil => rw [h] at h1; cases h1
      | cons c l => rfl
    cases ht : textF s with
    | false =>
      have HT := Lib.hid ht
      clear ht
      go_enter Tryd.func15, Tryd.ntmps15
      go_wp2_with fail
      refine (refText_any s _ hs).mono ?_
      rintro e w1 ⟨rfl, rfl⟩
      rw [HT.out]
      go_wp2
      go_ret
      exact ⟨ret_bool (by rw [HV.out, HT.out]; rfl), rfl⟩
    | true =>
      have HT := Lib.hid ht
      clear ht
      cases h0 : blankB s[0] with
      | true =>
        have H0 := Lib.hid h0
        clear h0
        go_enter Tryd.func15, Tryd.ntmps15
        go_wp2_with fail
        refine (refText_any s _ hs).mono ?_
        rintro e w1 ⟨rfl, rfl⟩
        rw [HT.out]
        go_wp2_with fail
        refine (blank_any _ _).mono ?_
        rintro e w1 ⟨rfl, rfl⟩
        rw [H0.out]
        go_wp2
        go_ret
        exact ⟨ret_bool (by rw [HV.out, HT.out, H0.out]; rfl), rfl⟩
      | false =>
        have H0 := Lib.hid h0
        clear h0
        go_enter Tryd.func15, Tryd.ntmps15
        go_wp2_with fail
        refine (refText_any s _ hs).mono ?_
        rintro e w1 ⟨rfl, rfl⟩
        rw [HT.out]
        go_wp2_with fail
        refine (blank_any _ _).mono ?_
        rintro e w1 ⟨rfl, rfl⟩
        rw [H0.out]
        go_wp2_with fail
        refine (blank_any _ _).mono ?_
        rintro e w1 ⟨rfl, rfl⟩
        go_wp2
        go_ret
        exact ⟨ret_bool (by rw [HV.out, HT.out, H0.out]; rfl), rfl⟩
end Go.Proofs.YtkfnebpooohflaaDoor.HeadS