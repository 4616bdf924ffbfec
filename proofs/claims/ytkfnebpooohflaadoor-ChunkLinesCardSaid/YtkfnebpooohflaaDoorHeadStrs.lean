/-
  Tokens, values, texts that are the same, blanks left out: in the program.
-/
import Derived.Test.YtkfnebpooohflaaDoorHeadChars
import Derived.BigQuiet
import Derived.Deep.QuietTactic
import Derived.Deep.RegionWith
namespace Go.Proofs.YtkfnebpooohflaaDoor.HeadS
open Go.RowKit HeadMath

theorem size_list (s : ByteArray) : s.data.toList.length = s.size := by simp
theorem bytes_at (s : ByteArray) (j : Nat) (h : j < s.size) : s.data.toList[j]'(by rw [size_list]; exact h) = s[j] := rfl
theorem all_take_succ (p : UInt8 → Bool) (s : ByteArray) (k : Nat) (h : k < s.size) : (s.data.toList.take (k + 1)).all p = ((s.data.toList.take k).all p && p s[k]) := by
  have h' : k < s.data.toList.length := by rw [size_list]; exact h
  rw [List.take_succ_eq_append_getElem h', List.all_append]
  simp
  rfl
theorem all_take_end (p : UInt8 → Bool) (s : ByteArray) : (s.data.toList.take s.size).all p = s.data.toList.all p := by
  rw [List.take_of_length_le (by rw [size_list]; exact Nat.le_refl _)]
theorem all_false_at (p : UInt8 → Bool) (s : ByteArray) (k : Nat) (h : k < s.size) (hp : p s[k] = false) : s.data.toList.all p = false := by
  rw [← Bool.not_eq_true, List.all_eq_true]
  intro hall
  have := hall s[k] (by rw [← bytes_at s k h]; exact List.getElem_mem _)
  rw [hp] at this; cases this
theorem not_empty (s : ByteArray) : (!s.toList.isEmpty) = !s.data.toList.isEmpty := by rw [Lib.toList_data]
theorem data_inj {a b : ByteArray} (h : a.data.toList = b.data.toList) : a = b := by
  obtain ⟨⟨x⟩⟩ := a
  obtain ⟨⟨y⟩⟩ := b
  simp at h; subst h; rfl
theorem indexByte_yes {l : List UInt8} {c : UInt8} (h : l.contains c = true) : 0 ≤ Lib.indexByte l c := by
  induction l with
  | nil => simp at h
  | cons d l ih =>
    unfold Lib.indexByte
    by_cases hd : (d == c) = true
    · rw [if_pos hd]; exact Int.le_refl _
    · rw [if_neg hd]
      have hl : l.contains c = true := by
        rw [List.contains_cons] at h
        rcases Bool.or_eq_true_iff.1 h with h1 | h1
        · exact absurd (by simpa [BEq.comm] using h1) hd
        · exact h1
      have := ih hl
      split
      · rename_i he
        simp at he
        omega
      · omega
theorem indexByte_no {l : List UInt8} {c : UInt8} (h : l.contains c = false) : Lib.indexByte l c < 0 := by
  induction l with
  | nil => simp [Lib.indexByte]
  | cons d l ih =>
    rw [List.contains_cons, Bool.or_eq_false_iff] at h
    have hd : (d == c) = false := by
      have := h.1
      simp at this ⊢
      exact fun e => this e.symm
    have h2 := ih h.2
    have h3 := Lib.indexByte_ge l c
    unfold Lib.indexByte
    rw [if_neg (by simp [hd])]
    have : Lib.indexByte l c = -1 := by omega
    rw [this]; simp
def mkIdx (c : UInt8) : Int := Lib.indexByte marks c
theorem indexOf_marks (c : UInt8) (w : World) :
    Calls Tryd.prog 61 #[.string { data := #[33, 35, 36, 37, 38, 39, 42, 43, 45, 46, 94, 95, 96, 124, 126] }, .int .u8 c.toNat] w fun e w' => e = .returned (.int .i64 (mkIdx c)) ∧ w = w' := by
  refine (Tryd.strings_IndexByte _ _ w).mono ?_
  rintro e w' ⟨rfl, rfl⟩
  refine ⟨?_, rfl⟩
  unfold mkIdx marks
  simp

set_option maxHeartbeats 2000000 in
theorem token_any (s : ByteArray) (w : World) (hs : s.size ≤ 140737488351232) : Calls Tryd.prog 46 #[.string s] w fun e w' => e = .returned (.bool (tokenF s.data.toList)) ∧ w = w' := by
  go_enter Tryd.func46, Tryd.ntmps46
  go_wp2
  go_loop [7] (fun i => ∃ k : Nat, k ≤ s.size ∧ i = .int .i64 k ∧ (s.data.toList.take k).all signB = true) (fun i => s.size - (intOf i).toNat)
  case atStart => exact ⟨0, Nat.zero_le _, rfl, rfl⟩
  case round =>
    obtain ⟨k, hk, rfl, hall⟩ := hrel
    have HA := Lib.hid hall
    clear hall
    by_cases hlt : k < s.size
    · have HN := Lib.hid (all_take_succ signB s k hlt)
      cases hl : letterB s[k] with
      | true =>
        have HS := Lib.hid (show signB s[k] = true from by unfold signB; rw [hl]; rfl)
        have HL := Lib.hid hl
        clear hl
        go_wp2_with fail
        refine (letter_any _ _).mono ?_
        rintro e w1 ⟨rfl, rfl⟩
        rw [HL.out]
        go_wp2
        go_round
        case rel => exact ⟨k + 1, by omega, by go_num, by rw [HN.out, HA.out, HS.out]; rfl⟩
        case measure => simp [intOf]; omega
      | false =>
        have HL := Lib.hid hl
        cases hd : digitB s[k] with
        | true =>
          have HS := Lib.hid (show signB s[k] = true from by unfold signB; rw [hd]; simp)
          have HD := Lib.hid hd
          clear hl hd
          go_wp2_with fail
          refine (letter_any _ _).mono ?_
          rintro e w1 ⟨rfl, rfl⟩
          rw [HL.out]
          go_wp2_with fail
          refine (digit_any _ _).mono ?_
          rintro e w1 ⟨rfl, rfl⟩
          rw [HD.out]
          go_wp2
          go_round
          case rel => exact ⟨k + 1, by omega, by go_num, by rw [HN.out, HA.out, HS.out]; rfl⟩
          case measure => simp [intOf]; omega
        | false =>
          have HD := Lib.hid hd
          cases hm : marks.contains s[k] with
          | true =>
            have HS := Lib.hid (show signB s[k] = true from by unfold signB; rw [hm]; simp)
            have hix : 0 ≤ mkIdx s[k] := indexByte_yes hm
            clear hl hd hm
            go_wp2_with fail
            refine (letter_any _ _).mono ?_
            rintro e w1 ⟨rfl, rfl⟩
            rw [HL.out]
            go_wp2_with fail
            refine (digit_any _ _).mono ?_
            rintro e w1 ⟨rfl, rfl⟩
            rw [HD.out]
            go_wp2_with fail
            refine (indexOf_marks _ _).mono ?_
            rintro e w1 ⟨rfl, rfl⟩
            go_wp2
            go_round
            case rel => exact ⟨k + 1, by omega, by go_num, by rw [HN.out, HA.out, HS.out]; rfl⟩
            case measure => simp [intOf]; omega
          | false =>
            have HS := Lib.hid (show tokenF s.data.toList = false from by
              unfold tokenF
              rw [all_false_at signB s k hlt (by unfold signB; rw [hl, hd, hm]; rfl)]; rfl)
            have hix : mkIdx s[k] < 0 := indexByte_no hm
            clear hl hd hm
            go_wp2_with fail
            refine (letter_any _ _).mono ?_
            rintro e w1 ⟨rfl, rfl⟩
            rw [HL.out]
            go_wp2_with fail
            refine (digit_any _ _).mono ?_
            rintro e w1 ⟨rfl, rfl⟩
            rw [HD.out]
            go_wp2_with fail
            refine (indexOf_marks _ _).mono ?_
            rintro e w1 ⟨rfl, rfl⟩
            go_wp2
            go_ret
            exact ⟨ret_bool (by rw [HS.out]), rfl⟩
    · have hks : k = s.size := by omega
      have HE := Lib.hid (show tokenF s.data.toList = (!s.toList.isEmpty) from by
        have := HA.out
        rw [hks, all_take_end] at this
        unfold tokenF
        rw [this, not_empty]; rfl)
      subst hks
      go_wp2
      go_ret
      exact ⟨ret_bool (by rw [HE.out]), rfl⟩

theorem blank_set (c : UInt8) : ([32, 9] : List UInt8).contains c = blankB c := by
  unfold blankB
  rw [List.contains_cons, List.contains_cons, List.contains_nil, Bool.or_false]
theorem trimS_eq (s : List UInt8) : Lib.trimS s [32, 9] = trimF s := by
  unfold Lib.trimS Lib.trimRightS Lib.trimLeftS trimF trimL
  simp only [blank_set]

theorem trim_any (s : ByteArray) (w : World) (hs : s.size ≤ 140737488351232) : Calls Tryd.prog 35 #[.string s] w fun e w' => e = .returned (.string ⟨(trimF s.data.toList).toArray⟩) ∧ Below w.heap.size w w' := by
  go_enter Tryd.func35, Tryd.ntmps35
  go_wp2_with fail
  refine (Any.strings_Trim_laid Tryd.lays160 (by kernel_rfl) s ⟨#[32, 9]⟩ _ (by omega) (by decide) (ascii_of_all (by decide))).mono ?_
  rintro e w1 ⟨rfl, hb⟩
  have HT := Lib.hid (trimS_eq s.data.toList)
  go_wp2
  go_ret
  exact ⟨congrArg (fun l : List UInt8 => Ending.returned (.string ⟨l.toArray⟩)) HT.out, hb⟩

set_option maxHeartbeats 2000000 in
theorem value_any (s : ByteArray) (w : World) (hs : s.size ≤ 140737488351232) : Calls Tryd.prog 34 #[.string s] w fun e w' => e = .returned (.bool (valueF s.data.toList)) ∧ Below w.heap.size w w' := by
  go_enter Tryd.func34, Tryd.ntmps34
  go_wp2
  go_loop [7] (fun i => ∃ k : Nat, k ≤ s.size ∧ i = .int .i64 k ∧ (s.data.toList.take k).all textB = true) (fun i => s.size - (intOf i).toNat)
  case atStart => exact ⟨0, Nat.zero_le _, rfl, rfl⟩
  case round =>
    obtain ⟨k, hk, rfl, hall⟩ := hrel
    have HA := Lib.hid hall
    clear hall
    by_cases hlt : k < s.size
    · have HN := Lib.hid (all_take_succ textB s k hlt)
      by_cases h9 : s[k] = 9
      · have HS := Lib.hid (show textB s[k] = true from by rw [h9]; rfl)
        have q9 : ((s[k].toNat : Int) != 9) = false := by rw [h9]; rfl
        clear h9
        go_wp2
        go_round
        case rel => exact ⟨k + 1, by omega, by go_num, by rw [HN.out, HA.out, HS.out]; rfl⟩
        case measure => simp [intOf]; omega
      · have e9 : ((s[k].toNat : Int) == 9) = false := (u8_beq_lit s[k] 9 (by omega)).trans (by simpa using h9)
        have q9 : ((s[k].toNat : Int) != 9) = true := by unfold bne; rw [e9]; rfl
        clear e9
        by_cases h32 : (s[k].toNat : Int) < 32
        · have HS := Lib.hid (show valueF s.data.toList = false from by
            unfold valueF
            rw [all_false_at textB s k hlt (by unfold textB; rw [show (s[k] == 9) = false from by simpa using h9, decide_eq_true (by omega : s[k].toNat < 32)]; rfl)]; rfl)
          clear h9
          go_wp2
          go_ret
          exact ⟨ret_bool (by rw [HS.out]), Below.refl _ _⟩
        · have h32' : (32 : Int) ≤ s[k].toNat := by omega
          have q32 : decide ((s[k].toNat : Int) < 32) = false := decide_eq_false h32
          by_cases h127 : s[k] = 127
          · have q127 : ((s[k].toNat : Int) == 127) = true := by rw [h127]; rfl
            have HS := Lib.hid (show valueF s.data.toList = false from by
              unfold valueF
              rw [all_false_at textB s k hlt (by rw [h127]; rfl)]; rfl)
            clear h9 h127 h32
            go_wp2
            go_ret
            exact ⟨ret_bool (by rw [HS.out]), Below.refl _ _⟩
          · have q127 : ((s[k].toNat : Int) == 127) = false := (u8_beq_lit s[k] 127 (by omega)).trans (by simpa using h127)
            have HS := Lib.hid (show textB s[k] = true from by
              unfold textB
              rw [decide_eq_false (by omega : ¬ s[k].toNat < 32), show (s[k] == 127) = false from by simpa using h127]; simp)
            clear h9 h127 h32
            go_wp2
            go_round
            case rel => exact ⟨k + 1, by omega, by go_num, by rw [HN.out, HA.out, HS.out]; rfl⟩
            case measure => simp [intOf]; omega
    · have hks : k = s.size := by omega
      have HE := Lib.hid (show s.data.toList.all textB = true from by
        have := HA.out
        rwa [hks, all_take_end] at this)
      subst hks
      go_wp2_with fail
      refine (trim_any s _ hs).mono ?_
      rintro e w1 ⟨rfl, hb⟩
      go_wp2
      go_ret
      refine ⟨ret_bool ?_, hb⟩
      unfold valueF
      rw [HE.out, Bool.true_and, Lib.toList_data]

def DrewPost (w : World) (v : Value) (e : Ending) (w' : World) : Prop := ∃ m : Nat, e = .returned v ∧ w' = w.drewN m
theorem below_drewN {B : Nat} {a w : World} (h : Below B a w) (n : Nat) : Below B a (w.drewN n) := ⟨h.os, h.tape, h.output, h.size, h.block⟩
end Go.Proofs.YtkfnebpooohflaaDoor.HeadS