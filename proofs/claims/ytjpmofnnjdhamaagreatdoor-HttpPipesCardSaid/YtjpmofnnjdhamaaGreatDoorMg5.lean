/-
  Tokens, values, texts that are the same, blanks left out: in the program.
  Tokens, values, texts that are the same, blanks left out: in the reference.
  A line cut at its first colon, in the program.
  Small letters of a text, in the reference: a copy of its bytes, changed one by one.
  The same texts, blanks left out: in the reference.
  Lines read as fields, in the program.
  The values of a name, in the program.
  All values of a name, in the program.
  Where a part of a list ends, in the program.
-/
import Derived.BigQuiet
import Derived.Deep.QuietTactic
import Derived.Deep.RegionWith
import Derived.Laws.IdiomStrings
import Derived.Laws.OwnMore
import Derived.Deep.Draws
import Derived.Laws.Rows
import Derived.Test.YtjpmofnnjdhamaaGreatDoorMg1
namespace Go.Proofs.YtjpmofnnjdhamaaGreatDoor.HeadS
open Go.RowKit HeadMath

theorem size_list (s : ByteArray) : s.data.toList.length = s.size := by simp
theorem bytes_at (s : ByteArray) (j : Nat) (h : j < s.size) : s.data.toList[j]'(by rw [size_list]; exact h) = s[j] := rfl
theorem all_take_succ (p : UInt8 → Bool) (s : ByteArray) (k : Nat) (h : k < s.size) : (s.data.toList.take (k + 1)).all p = ((s.data.toList.take k).all p && p s[k]) := by
  have h' : k < s.data.toList.length := by rw [size_list]; exact h
  rw [List.take_succ_eq_append_getElem h', List.all_append]
  simp
  rfl
theorem all_take_end (p : UInt8 → Bool) (s : ByteArray) : (s.data.toList.take s.size).all p = s.data.toList.all p := by
  rw [List.take_of_length_le (by rw [size_list]; exact Nat.le_refl _)]
theorem all_false_at (p : UInt8 → Bool) (s : ByteArray) (k : Nat) (h : k < s.size) (hp : p s[k] = false) : s.data.toList.all p = false := by
  rw [← Bool.not_eq_true, List.all_eq_true]
  intro hall
  have := hall s[k] (by rw [← bytes_at s k h]; exact List.getElem_mem _)
  rw [hp] at this; cases this
theorem not_empty (s : ByteArray) : (!s.toList.isEmpty) = !s.data.toList.isEmpty := by rw [Lib.toList_data]
theorem data_inj {a b : ByteArray} (h : a.data.toList = b.data.toList) : a = b := by
  obtain ⟨⟨x⟩⟩ := a
  obtain ⟨⟨y⟩⟩ := b
  simp at h; subst h; rfl
theorem indexByte_yes {l : List UInt8} {c : UInt8} (h : l.contains c = true) : 0 ≤ Lib.indexByte l c := by
  induction l with
  | nil => simp at h
  | cons d l ih =>
    unfold Lib.indexByte
    by_cases hd : (d == c) = true
    · rw [if_pos hd]; exact Int.le_refl _
    · rw [if_neg hd]
      have hl : l.contains c = true := by
        rw [List.contains_cons] at h
        rcases Bool.or_eq_true_iff.1 h with h1 | h1
        · exact absurd (by simpa [BEq.comm] using h1) hd
        · exact h1
      have := ih hl
      split
      · rename_i he
        simp at he
        omega
      · omega
theorem indexByte_no {l : List UInt8} {c : UInt8} (h : l.contains c = false) : Lib.indexByte l c < 0 := by
  induction l with
  | nil => simp [Lib.indexByte]
  | cons d l ih =>
    rw [List.contains_cons, Bool.or_eq_false_iff] at h
    have hd : (d == c) = false := by
      have := h.1
      simp at this ⊢
      exact fun e => this e.symm
    have h2 := ih h.2
    have h3 := Lib.indexByte_ge l c
    unfold Lib.indexByte
    rw [if_neg (by simp [hd])]
    have : Lib.indexByte l c = -1 := by omega
    rw [this]; simp
def mkIdx (c : UInt8) : Int := Lib.indexByte marks c
theorem indexOf_marks (c : UInt8) (w : World) :
    Calls Tryz.prog 71 #[.string { data := #[33, 35, 36, 37, 38, 39, 42, 43, 45, 46, 94, 95, 96, 124, 126] }, .int .u8 c.toNat] w fun e w' => e = .returned (.int .i64 (mkIdx c)) ∧ w = w' := by
  refine (Tryz.strings_IndexByte _ _ w).mono ?_
  rintro e w' ⟨rfl, rfl⟩
  refine ⟨?_, rfl⟩
  unfold mkIdx marks
  simp

set_option maxHeartbeats 2000000 in
theorem token_any (s : ByteArray) (w : World) (hs : s.size ≤ 140737488351232) : Calls Tryz.prog 42 #[.string s] w fun e w' => e = .returned (.bool (tokenF s.data.toList)) ∧ w = w' := by
  go_enter Tryz.func42, Tryz.ntmps42
  go_wp2
  go_loop [7] (fun i => ∃ k : Nat, k ≤ s.size ∧ i = .int .i64 k ∧ (s.data.toList.take k).all signB = true) (fun i => s.size - (intOf i).toNat)
  case atStart => exact ⟨0, Nat.zero_le _, rfl, rfl⟩
  case round =>
    obtain ⟨k, hk, rfl, hall⟩ := hrel
    have HA := Lib.hid hall
    clear hall
    by_cases hlt : k < s.size
    · have HN := Lib.hid (all_take_succ signB s k hlt)
      cases hl : letterB s[k] with
      | true =>
        have HS := Lib.hid (show signB s[k] = true from by unfold signB; rw [hl]; rfl)
        have HL := Lib.hid hl
        clear hl
        go_wp2_with fail
        refine (letter_any _ _).mono ?_
        rintro e w1 ⟨rfl, rfl⟩
        rw [HL.out]
        go_wp2
        go_round
        case rel => exact ⟨k + 1, by omega, by go_num, by rw [HN.out, HA.out, HS.out]; rfl⟩
        case measure => simp [intOf]; omega
      | false =>
        have HL := Lib.hid hl
        cases hd : digitB s[k] with
        | true =>
          have HS := Lib.hid (show signB s[k] = true from by unfold signB; rw [hd]; simp)
          have HD := Lib.hid hd
          clear hl hd
          go_wp2_with fail
          refine (letter_any _ _).mono ?_
          rintro e w1 ⟨rfl, rfl⟩
          rw [HL.out]
          go_wp2_with fail
          refine (digit_any _ _).mono ?_
          rintro e w1 ⟨rfl, rfl⟩
          rw [HD.out]
          go_wp2
          go_round
          case rel => exact ⟨k + 1, by omega, by go_num, by rw [HN.out, HA.out, HS.out]; rfl⟩
          case measure => simp [intOf]; omega
        | false =>
          have HD := Lib.hid hd
          cases hm : marks.contains s[k] with
          | true =>
            have HS := Lib.hid (show signB s[k] = true from by unfold signB; rw [hm]; simp)
            have hix : 0 ≤ mkIdx s[k] := indexByte_yes hm
            clear hl hd hm
            go_wp2_with fail
            refine (letter_any _ _).mono ?_
            rintro e w1 ⟨rfl, rfl⟩
            rw [HL.out]
            go_wp2_with fail
            refine (digit_any _ _).mono ?_
            rintro e w1 ⟨rfl, rfl⟩
            rw [HD.out]
            go_wp2_with fail
            refine (indexOf_marks _ _).mono ?_
            rintro e w1 ⟨rfl, rfl⟩
            go_wp2
            go_round
            case rel => exact ⟨k + 1, by omega, by go_num, by rw [HN.out, HA.out, HS.out]; rfl⟩
            case measure => simp [intOf]; omega
          | false =>
            have HS := Lib.hid (show tokenF s.data.toList = false from by
              unfold tokenF
              rw [all_false_at signB s k hlt (by unfold signB; rw [hl, hd, hm]; rfl)]; rfl)
            have hix : mkIdx s[k] < 0 := indexByte_no hm
            clear hl hd hm
            go_wp2_with fail
            refine (letter_any _ _).mono ?_
            rintro e w1 ⟨rfl, rfl⟩
            rw [HL.out]
            go_wp2_with fail
            refine (digit_any _ _).mono ?_
            rintro e w1 ⟨rfl, rfl⟩
            rw [HD.out]
            go_wp2_with fail
            refine (indexOf_marks _ _).mono ?_
            rintro e w1 ⟨rfl, rfl⟩
            go_wp2
            go_ret
            exact ⟨ret_bool (by rw [HS.out]), rfl⟩
    · have hks : k = s.size := by omega
      have HE := Lib.hid (show tokenF s.data.toList = (!s.toList.isEmpty) from by
        have := HA.out
        rw [hks, all_take_end] at this
        unfold tokenF
        rw [this, not_empty]; rfl)
      subst hks
      go_wp2
      go_ret
      exact ⟨ret_bool (by rw [HE.out]), rfl⟩

theorem blank_set (c : UInt8) : ([32, 9] : List UInt8).contains c = blankB c := by
  unfold blankB
  rw [List.contains_cons, List.contains_cons, List.contains_nil, Bool.or_false]
theorem trimS_eq (s : List UInt8) : Lib.trimS s [32, 9] = trimF s := by
  unfold Lib.trimS Lib.trimRightS Lib.trimLeftS trimF trimL
  simp only [blank_set]

theorem trim_any (s : ByteArray) (w : World) (hs : s.size ≤ 140737488351232) : Calls Tryz.prog 102 #[.string s] w fun e w' => e = .returned (.string ⟨(trimF s.data.toList).toArray⟩) ∧ Below w.heap.size w w' := by
  go_enter Tryz.func102, Tryz.ntmps102
  go_wp2_with fail
  refine (Any.strings_Trim_laid Tryz.lays160 (by kernel_rfl) s ⟨#[32, 9]⟩ _ (by omega) (by decide) (ascii_of_all (by decide))).mono ?_
  rintro e w1 ⟨rfl, hb⟩
  have HT := Lib.hid (trimS_eq s.data.toList)
  go_wp2
  go_ret
  exact ⟨congrArg (fun l : List UInt8 => Ending.returned (.string ⟨l.toArray⟩)) HT.out, hb⟩

set_option maxHeartbeats 2000000 in
theorem value_any (s : ByteArray) (w : World) (hs : s.size ≤ 140737488351232) : Calls Tryz.prog 103 #[.string s] w fun e w' => e = .returned (.bool (valueF s.data.toList)) ∧ Below w.heap.size w w' := by
  go_enter Tryz.func103, Tryz.ntmps103
  go_wp2
  go_loop [7] (fun i => ∃ k : Nat, k ≤ s.size ∧ i = .int .i64 k ∧ (s.data.toList.take k).all textB = true) (fun i => s.size - (intOf i).toNat)
  case atStart => exact ⟨0, Nat.zero_le _, rfl, rfl⟩
  case round =>
    obtain ⟨k, hk, rfl, hall⟩ := hrel
    have HA := Lib.hid hall
    clear hall
    by_cases hlt : k < s.size
    · have HN := Lib.hid (all_take_succ textB s k hlt)
      by_cases h9 : s[k] = 9
      · have HS := Lib.hid (show textB s[k] = true from by rw [h9]; rfl)
        have q9 : ((s[k].toNat : Int) != 9) = false := by rw [h9]; rfl
        clear h9
        go_wp2
        go_round
        case rel => exact ⟨k + 1, by omega, by go_num, by rw [HN.out, HA.out, HS.out]; rfl⟩
        case measure => simp [intOf]; omega
      · have e9 : ((s[k].toNat : Int) == 9) = false := (u8_beq_lit s[k] 9 (by omega)).trans (by simpa using h9)
        have q9 : ((s[k].toNat : Int) != 9) = true := by unfold bne; rw [e9]; rfl
        clear e9
        by_cases h32 : (s[k].toNat : Int) < 32
        · have HS := Lib.hid (show valueF s.data.toList = false from by
            unfold valueF
            rw [all_false_at textB s k hlt (by unfold textB; rw [show (s[k] == 9) = false from by simpa using h9, decide_eq_true (by omega : s[k].toNat < 32)]; rfl)]; rfl)
          clear h9
          go_wp2
          go_ret
          exact ⟨ret_bool (by rw [HS.out]), Below.refl _ _⟩
        · have h32' : (32 : Int) ≤ s[k].toNat := by omega
          have q32 : decide ((s[k].toNat : Int) < 32) = false := decide_eq_false h32
          by_cases h127 : s[k] = 127
          · have q127 : ((s[k].toNat : Int) == 127) = true := by rw [h127]; rfl
            have HS := Lib.hid (show valueF s.data.toList = false from by
              unfold valueF
              rw [all_false_at textB s k hlt (by rw [h127]; rfl)]; rfl)
            clear h9 h127 h32
            go_wp2
            go_ret
            exact ⟨ret_bool (by rw [HS.out]), Below.refl _ _⟩
          · have q127 : ((s[k].toNat : Int) == 127) = false := (u8_beq_lit s[k] 127 (by omega)).trans (by simpa using h127)
            have HS := Lib.hid (show textB s[k] = true from by
              unfold textB
              rw [decide_eq_false (by omega : ¬ s[k].toNat < 32), show (s[k] == 127) = false from by simpa using h127]; simp)
            clear h9 h127 h32
            go_wp2
            go_round
            case rel => exact ⟨k + 1, by omega, by go_num, by rw [HN.out, HA.out, HS.out]; rfl⟩
            case measure => simp [intOf]; omega
    · have hks : k = s.size := by omega
      have HE := Lib.hid (show s.data.toList.all textB = true from by
        have := HA.out
        rwa [hks, all_take_end] at this)
      subst hks
      go_wp2_with fail
      refine (trim_any s _ hs).mono ?_
      rintro e w1 ⟨rfl, hb⟩
      go_wp2
      go_ret
      refine ⟨ret_bool ?_, hb⟩
      unfold valueF
      rw [HE.out, Bool.true_and, Lib.toList_data]

theorem small_quiet (c : UInt8) (w : World) : Calls Tryz.prog 99 #[.int .u8 c.toNat] w fun e w' => e = .returned (.int .u8 (small c).toNat) ∧ w' = w := (small_any c w).mono fun _ _ ⟨he, hw⟩ => ⟨he, hw.symm⟩
def DrewPost (w : World) (v : Value) (e : Ending) (w' : World) : Prop := ∃ m : Nat, e = .returned v ∧ w' = w.drewN m
theorem below_drewN {B : Nat} {a w : World} (h : Below B a w) (n : Nat) : Below B a (w.drewN n) := ⟨h.os, h.tape, h.output, h.size, h.block⟩
theorem sameF_at {a b : ByteArray} (_hl : a.size = b.size) (k : Nat) (h : k < a.size) (h' : k < b.size) (hne : small a[k] ≠ small b[k]) : sameF a.data.toList b.data.toList = false := by
  unfold sameF lowF
  rw [beq_eq_false_iff_ne]
  intro e
  have h1 : (a.data.toList.map small)[k]? = some (small a[k]) := by
    rw [List.getElem?_map, List.getElem?_eq_getElem (by rw [size_list]; exact h)]; rfl
  have h2 : (b.data.toList.map small)[k]? = some (small b[k]) := by
    rw [List.getElem?_map, List.getElem?_eq_getElem (by rw [size_list]; exact h')]; rfl
  rw [e, h2] at h1
  exact hne (Option.some.inj h1).symm
theorem sameF_all {a b : ByteArray} (hl : a.size = b.size) (h : ∀ k (h1 : k < a.size) (h2 : k < b.size), small a[k] = small b[k]) : sameF a.data.toList b.data.toList = true := by
  unfold sameF lowF
  rw [beq_iff_eq]
  apply List.ext_getElem
  · simp [hl]
  · intro i h1 h2
    rw [List.getElem_map, List.getElem_map]
    exact h i (by simpa using h1) (by simpa using h2)

set_option maxHeartbeats 2000000 in
theorem same_any (a b : ByteArray) (w : World) (ha : a.size ≤ 140737488351232) (_hb : b.size ≤ 140737488351232) : Calls Tryz.prog 74 #[.string a, .string b] w (DrewPost w (.bool (sameF a.data.toList b.data.toList))) := by
  by_cases hl : a.size = b.size
  · have q : (((a.size : Nat) : Int) != (b.size : Int)) = false := by simp [hl]
    have HL := Lib.hid hl
    have hle1 : a.size ≤ b.size := by omega
    have hle2 : b.size ≤ a.size := by omega
    clear hl
    go_enter Tryz.func74, Tryz.ntmps74
    go_wp2
    go_loopw [13] (fun i wr => ∃ k : Nat, k ≤ a.size ∧ i = .int .i64 k ∧ (∀ j (h1 : j < a.size) (h2 : j < b.size), j < k → small a[j] = small b[j]) ∧ ∃ m, wr = w.drewN m) (fun i _ => a.size - (intOf i).toNat)
    case atStart => exact ⟨0, Nat.zero_le _, rfl, fun j _ _ h => by omega, 0, rfl⟩
    case round =>
      obtain ⟨k, hk, rfl, hall, m, hm⟩ := hrel
      have HA := Lib.hid hall
      have HM := Lib.hid hm
      clear hall hm
      by_cases hlt : k < a.size
      · have hlt2 : k < b.size := by omega
        by_cases hxy : small a[k] = small b[k]
        · have q2 : (((small a[k]).toNat : Int) != ((small b[k]).toNat : Int)) = false := by rw [hxy]; simp
          have HXY := Lib.hid hxy
          clear hxy
          go_wp2
          go_quiet ((go_at_call 99; exact Calls.quiet_of_same (small_quiet _ _)))
          go_wp2
          go_roundw
          case rel =>
            refine ⟨k + 1, by omega, by go_num, fun j h1 h2 hj => ?_, ?_⟩
            · by_cases hjk : j = k
              · subst hjk; exact HXY.out
              · exact HA.out j h1 h2 (by omega)
            · obtain ⟨m', hm'⟩ : ∃ m', wr = w.drewN m' := ⟨m, HM.out⟩
              exact ⟨_, by rw [hm', World.drewN_drewN]⟩
          case measure => simp [intOf]; omega
        · have q2 : (((small a[k]).toNat : Int) != ((small b[k]).toNat : Int)) = true := by
            unfold bne; rw [u8_beq]; simpa using hxy
          have HF := Lib.hid (sameF_at HL.out k hlt hlt2 hxy)
          clear hxy
          go_wp2
          go_quiet ((go_at_call 99; exact Calls.quiet_of_same (small_quiet _ _)))
          go_wp2
          go_ret
          exact ⟨_, ret_bool (by rw [HF.out]), by rw [HM.out, World.drewN_drewN]⟩
      · have HF := Lib.hid (sameF_all HL.out (fun j h1 h2 => HA.out j h1 h2 (by omega)))
        go_wp2
        go_ret
        exact ⟨m, ret_bool (by rw [HF.out]), HM.out⟩
  · have q : (((a.size : Nat) : Int) != (b.size : Int)) = true := by simp; omega
    have HF := Lib.hid (sameF_len (a := a.data.toList) (b := b.data.toList) (by rw [size_list, size_list]; exact hl))
    clear hl
    go_enter Tryz.func74, Tryz.ntmps74
    go_wp2
    go_ret
    exact ⟨0, ret_bool (by rw [HF.out]), rfl⟩
end Go.Proofs.YtjpmofnnjdhamaaGreatDoor.HeadS
namespace Go.Proofs.YtjpmofnnjdhamaaGreatDoor.HeadS
open Go.RowKit HeadMath

set_option maxHeartbeats 2000000 in
theorem refToken_any (s : ByteArray) (w : World) (hs : s.size ≤ 140737488351232) : Calls Tryz.prog 56 #[.string s] w fun e w' => e = .returned (.bool (tokenF s.data.toList)) ∧ w = w' := by
  go_enter Tryz.func56, Tryz.ntmps56
  go_wp2
  go_loop [3] (fun i => ∃ k : Nat, k ≤ s.size ∧ i = .int .i64 k ∧ (s.data.toList.take k).all signB = true) (fun i => s.size - (intOf i).toNat)
  case atStart => exact ⟨0, Nat.zero_le _, rfl, rfl⟩
  case round =>
    obtain ⟨k, hk, rfl, hall⟩ := hrel
    have HA := Lib.hid hall
    clear hall
    by_cases hlt : k < s.size
    · have HN := Lib.hid (all_take_succ signB s k hlt)
      cases hl : signB s[k] with
      | true =>
        have HL := Lib.hid hl
        clear hl
        go_wp2_with fail
        refine (sign_any _ _).mono ?_
        rintro e w1 ⟨rfl, rfl⟩
        rw [HL.out]
        go_wp2
        go_round
        case rel => exact ⟨k + 1, by omega, by go_num, by rw [HN.out, HA.out, HL.out]; rfl⟩
        case measure => simp [intOf]; omega
      | false =>
        have HL := Lib.hid hl
        have HS := Lib.hid (show tokenF s.data.toList = false from by
          unfold tokenF
          rw [all_false_at signB s k hlt hl]; rfl)
        clear hl
        go_wp2_with fail
        refine (sign_any _ _).mono ?_
        rintro e w1 ⟨rfl, rfl⟩
        rw [HL.out]
        go_wp2
        go_ret
        exact ⟨ret_bool (by rw [HS.out]), rfl⟩
    · have hks : k = s.size := by omega
      have HE := Lib.hid (show tokenF s.data.toList = (!s.toList.isEmpty) from by
        have := HA.out
        rw [hks, all_take_end] at this
        unfold tokenF
        rw [this, not_empty]; rfl)
      subst hks
      go_wp2
      go_ret
      exact ⟨ret_bool (by rw [HE.out]), rfl⟩

def textF (s : ByteArray) : Bool := s.data.toList.all textB
set_option maxHeartbeats 2000000 in
theorem refText_any (s : ByteArray) (w : World) (hs : s.size ≤ 140737488351232) : Calls Tryz.prog 52 #[.string s] w fun e w' => e = .returned (.bool (textF s)) ∧ w = w' := by
  go_enter Tryz.func52, Tryz.ntmps52
  go_wp2
  go_loop [3] (fun i => ∃ k : Nat, k ≤ s.size ∧ i = .int .i64 k ∧ (s.data.toList.take k).all textB = true) (fun i => s.size - (intOf i).toNat)
  case atStart => exact ⟨0, Nat.zero_le _, rfl, rfl⟩
  case round =>
    obtain ⟨k, hk, rfl, hall⟩ := hrel
    have HA := Lib.hid hall
    clear hall
    by_cases hlt : k < s.size
    · have HN := Lib.hid (all_take_succ textB s k hlt)
      by_cases h32 : (s[k].toNat : Int) < 32
      · by_cases h9 : s[k] = 9
        · have HS := Lib.hid (show textB s[k] = true from by rw [h9]; rfl)
          have q9 : ((s[k].toNat : Int) != 9) = false := by rw [h9]; rfl
          have q127 : ((s[k].toNat : Int) == 127) = false := by rw [h9]; rfl
          clear h9
          go_wp2
          go_round
          case rel => exact ⟨k + 1, by omega, by go_num, by rw [HN.out, HA.out, HS.out]; rfl⟩
          case measure => simp [intOf]; omega
        · have e9 : ((s[k].toNat : Int) == 9) = false := (u8_beq_lit s[k] 9 (by omega)).trans (by simpa using h9)
          have q9 : ((s[k].toNat : Int) != 9) = true := by unfold bne; rw [e9]; rfl
          have HS := Lib.hid (show textF s = false from
            all_false_at textB s k hlt (by unfold textB; rw [show (s[k] == 9) = false from by simpa using h9, decide_eq_true (by omega : s[k].toNat < 32)]; rfl))
          clear h9 e9
          go_wp2
          go_ret
          exact ⟨ret_bool (by rw [HS.out]), rfl⟩
      · have h32' : (32 : Int) ≤ s[k].toNat := by omega
        have q32 : decide ((s[k].toNat : Int) < 32) = false := decide_eq_false h32
        by_cases h127 : s[k] = 127
        · have q127 : ((s[k].toNat : Int) == 127) = true := by rw [h127]; rfl
          have HS := Lib.hid (show textF s = false from all_false_at textB s k hlt (by rw [h127]; rfl))
          clear h127 h32
          go_wp2
          go_ret
          exact ⟨ret_bool (by rw [HS.out]), rfl⟩
        · have q127 : ((s[k].toNat : Int) == 127) = false := (u8_beq_lit s[k] 127 (by omega)).trans (by simpa using h127)
          have HS := Lib.hid (show textB s[k] = true from by
            unfold textB
            rw [decide_eq_false (by omega : ¬ s[k].toNat < 32), show (s[k] == 127) = false from by simpa using h127]; simp)
          clear h127 h32
          go_wp2
          go_round
          case rel => exact ⟨k + 1, by omega, by go_num, by rw [HN.out, HA.out, HS.out]; rfl⟩
          case measure => simp [intOf]; omega
    · have hks : k = s.size := by omega
      have HE := Lib.hid (show textF s = true from by
        have := HA.out
        rwa [hks, all_take_end] at this)
      subst hks
      go_wp2
      go_ret
      exact ⟨ret_bool (by rw [HE.out]), rfl⟩

theorem head_at {s : ByteArray} (h : 0 < s.size) : s.data.toList.head? = some s[0] := by
  have h' : 0 < s.data.toList.length := by rw [size_list]; exact h
  rw [List.head?_eq_getElem?, List.getElem?_eq_getElem h']; rfl
theorem last_at {s : ByteArray} (h : 0 < s.size) : s.data.toList.getLast? = some (s[s.size - 1]'(by omega)) := by
  have h' : s.size - 1 < s.data.toList.length := by rw [size_list]; omega
  rw [List.getLast?_eq_getElem?, size_list, List.getElem?_eq_getElem h']; rfl
theorem valueF_ends {s : ByteArray} (h : 0 < s.size) : valueF s.data.toList = (textF s && (!blankB s[0] && !blankB (s[s.size - 1]'(by omega)))) := by
  unfold valueF textF
  congr 1
  rw [Bool.eq_iff_iff, beq_iff_eq, eq_trimF]
  unfold Bare
  rw [head_at h, last_at h]
  simp
theorem valueF_empty {s : ByteArray} (h : s.size = 0) : valueF s.data.toList = textF s := by
  unfold textF
  have : s.data.toList = [] := List.eq_nil_of_length_eq_zero (by rw [size_list]; exact h)
  rw [this]; rfl

set_option maxHeartbeats 2000000 in
theorem refValue_any (s : ByteArray) (w : World) (hs : s.size ≤ 140737488351232) : Calls Tryz.prog 24 #[.string s] w fun e w' => e = .returned (.bool (valueF s.data.toList)) ∧ w = w' := by
  by_cases hz : s.size = 0
  · have HV := Lib.hid (valueF_empty hz)
    have qe : s.toList.isEmpty = true := by
      have : s.data.toList = [] := List.eq_nil_of_length_eq_zero (by rw [size_list]; exact hz)
      rw [Lib.toList_data, this]; rfl
    cases ht : textF s with
    | true =>
      have HT := Lib.hid ht
      clear ht
      go_enter Tryz.func24, Tryz.ntmps24
      go_wp2_with fail
      refine (refText_any s _ hs).mono ?_
      rintro e w1 ⟨rfl, rfl⟩
      rw [HT.out]
      go_wp2
      go_ret
      exact ⟨ret_bool (by rw [HV.out, HT.out]), rfl⟩
    | false =>
      have HT := Lib.hid ht
      clear ht
      go_enter Tryz.func24, Tryz.ntmps24
      go_wp2_with fail
      refine (refText_any s _ hs).mono ?_
      rintro e w1 ⟨rfl, rfl⟩
      rw [HT.out]
      go_wp2
      go_ret
      exact ⟨ret_bool (by rw [HV.out, HT.out]), rfl⟩
  · have hpos : 0 < s.size := by omega
    have hlast : s.size - 1 < s.size := by omega
    have HV := Lib.hid (valueF_ends hpos)
    have qe : s.toList.isEmpty = false := by
      have h1 := head_at hpos
      rw [Lib.toList_data]
      cases h : s.data.toList with
      | nil => rw [h] at h1; cases h1
      | cons c l => rfl
    cases ht : textF s with
    | false =>
      have HT := Lib.hid ht
      clear ht
      go_enter Tryz.func24, Tryz.ntmps24
      go_wp2_with fail
      refine (refText_any s _ hs).mono ?_
      rintro e w1 ⟨rfl, rfl⟩
      rw [HT.out]
      go_wp2
      go_ret
      exact ⟨ret_bool (by rw [HV.out, HT.out]; rfl), rfl⟩
    | true =>
      have HT := Lib.hid ht
      clear ht
      cases h0 : blankB s[0] with
      | true =>
        have H0 := Lib.hid h0
        clear h0
        go_enter Tryz.func24, Tryz.ntmps24
        go_wp2_with fail
        refine (refText_any s _ hs).mono ?_
        rintro e w1 ⟨rfl, rfl⟩
        rw [HT.out]
        go_wp2_with fail
        refine (blank_any _ _).mono ?_
        rintro e w1 ⟨rfl, rfl⟩
        rw [H0.out]
        go_wp2
        go_ret
        exact ⟨ret_bool (by rw [HV.out, HT.out, H0.out]; rfl), rfl⟩
      | false =>
        have H0 := Lib.hid h0
        clear h0
        go_enter Tryz.func24, Tryz.ntmps24
        go_wp2_with fail
        refine (refText_any s _ hs).mono ?_
        rintro e w1 ⟨rfl, rfl⟩
        rw [HT.out]
        go_wp2_with fail
        refine (blank_any _ _).mono ?_
        rintro e w1 ⟨rfl, rfl⟩
        rw [H0.out]
        go_wp2_with fail
        refine (blank_any _ _).mono ?_
        rintro e w1 ⟨rfl, rfl⟩
        go_wp2
        go_ret
        exact ⟨ret_bool (by rw [HV.out, HT.out, H0.out]; rfl), rfl⟩
end Go.Proofs.YtjpmofnnjdhamaaGreatDoor.HeadS
namespace Go.Proofs.YtjpmofnnjdhamaaGreatDoor.HeadS
open Go.RowKit HeadMath

def colonAt (s : ByteArray) : Int := Lib.indexByte s.data.toList 58
theorem colonAt_index (s : ByteArray) (w : World) :
    Calls Tryz.prog 127 #[.string s, .string { data := #[58] }] w fun e w' => e = .returned (.int .i64 (colonAt s)) ∧ w' = w := Tryz.stringslite_Index_one s 58 w

set_option maxHeartbeats 2000000 in
theorem cutLite_none (s : ByteArray) (w : World) (_hs : s.size ≤ 140737488351232) (hi : colonAt s < 0) : Calls Tryz.prog 112 #[.string s, .string { data := #[58] }] w (DrewPost w (.tuple #[.string s, .string { data := #[] }, .bool false])) := by
  go_enter Tryz.func112, Tryz.ntmps112
  go_wp2_with fail
  refine (colonAt_index _ _).mono ?_
  rintro e w1 ⟨rfl, rfl⟩
  go_wp2
  go_ret3
  exact ⟨0, rfl, rfl⟩

theorem colon_le (s : ByteArray) {i : Nat} (h : colonAt s = i) : i < s.size := by
  have h1 := (Lib.indexByte_some h).1
  rcases Nat.lt_or_ge i s.data.toList.length with h2 | h2
  · rwa [size_list] at h2
  · rw [List.getElem?_eq_none h2] at h1; cases h1

set_option maxHeartbeats 2000000 in
theorem cutLite_some (s : ByteArray) (w : World) (hs : s.size ≤ 140737488351232) (i : Nat) (hi : colonAt s = i) : Calls Tryz.prog 112 #[.string s, .string { data := #[58] }] w (DrewPost w (.tuple #[.string (s.extract 0 i), .string (s.extract (i + 1) s.size), .bool true])) := by
  have hlt := colon_le s hi
  have hlen : ({ data := #[58] } : ByteArray).size = 1 := rfl
  have HI := Lib.hid hi
  clear hi
  go_enter Tryz.func112, Tryz.ntmps112
  go_wp2_with fail
  refine (colonAt_index _ _).mono ?_
  rintro e w1 ⟨rfl, rfl⟩
  rw [HI.out]
  have hw : IntKind.i64.wrap ((i : Int) + 1) = (i : Int) + 1 := IntWalk.i64_in _ (by omega)
  go_wp2
  go_quiet (fail)
  go_wp2
  go_ret3
  exact ⟨_, rfl, rfl⟩


set_option maxHeartbeats 2000000 in
theorem cut_none (s : ByteArray) (w : World) (hs : s.size ≤ 140737488351232) (hi : colonAt s < 0) : Calls Tryz.prog 78 #[.string s, .string { data := #[58] }] w (DrewPost w (.tuple #[.string s, .string { data := #[] }, .bool false])) := by
  go_enter Tryz.func78, Tryz.ntmps78
  go_wp2_with fail
  refine (cutLite_none s _ hs hi).mono ?_
  rintro e w1 ⟨m, rfl, rfl⟩
  go_wp2
  go_ret3
  exact ⟨m, rfl, rfl⟩

set_option maxHeartbeats 2000000 in
theorem cut_some (s : ByteArray) (w : World) (hs : s.size ≤ 140737488351232) (i : Nat) (hi : colonAt s = i) : Calls Tryz.prog 78 #[.string s, .string { data := #[58] }] w (DrewPost w (.tuple #[.string (s.extract 0 i), .string (s.extract (i + 1) s.size), .bool true])) := by
  have HI := Lib.hid hi
  clear hi
  go_enter Tryz.func78, Tryz.ntmps78
  go_wp2_with fail
  refine (cutLite_some s _ hs i HI.out).mono ?_
  rintro e w1 ⟨m, rfl, rfl⟩
  go_wp2
  go_ret3
  exact ⟨m, rfl, rfl⟩
end Go.Proofs.YtjpmofnnjdhamaaGreatDoor.HeadS
namespace Go.Proofs.YtjpmofnnjdhamaaGreatDoor.HeadS
open Go.RowKit HeadMath

def MBlk (w : World) (g : Nat) (t : TypeId) (cs : Array Value) (r : Nat × Nat) : Prop := w.heap[g]? = some (.cells cs t r)
section
variable {w w' : World} {g : Nat} {t : TypeId} {cs : Array Value} {r : Nat × Nat}
theorem MBlk.lt (h : MBlk w g t cs r) : g < w.heap.size := by
  rcases Nat.lt_or_ge g w.heap.size with hlt | hge
  · exact hlt
  · unfold MBlk at h; rw [Array.getElem?_eq_none hge] at h; cases h
theorem MBlk.cell (h : MBlk w g t cs r) (i : Nat) : w.cell? ⟨g, i, none⟩ = cs[i]? := cell_of_row w g i cs t r h
theorem MBlk.frozen (h : MBlk w g t cs r) (i : Nat) (hi : i < r.1) : w.frozen? ⟨g, i, none⟩ = false := by
  unfold MBlk at h
  simp [World.frozen?, h]
  omega
theorem MBlk.new (w : World) (t : TypeId) (cs : Array Value) (r : Nat × Nat) : MBlk (w.alloc (.cells cs t r)) w.heap.size t cs r := heap_alloc_new w _
theorem MBlk.set_ (h : MBlk w g t cs r) (i : Nat) (u : Value) : MBlk (w.setCell ⟨g, i, none⟩ u) g t (cs.setIfInBounds i u) r := by
  unfold MBlk at h ⊢
  simp [World.setCell, Array.getElem?_modify, h]
end

/-- The text with small letters up to k. -/
def mixL (l : List UInt8) (k : Nat) : List UInt8 := (l.take k).map small ++ l.drop k
theorem mixL_len (l : List UInt8) (k : Nat) : (mixL l k).length = l.length := by
  simp [mixL]; omega
theorem mixL_zero (l : List UInt8) : mixL l 0 = l := by simp [mixL]
theorem mixL_get (l : List UInt8) (k j : Nat) (h : j < l.length) : (mixL l k)[j]? = some (if j < k then small l[j] else l[j]) := by
  unfold mixL
  by_cases hj : j < k
  · rw [List.getElem?_append_left (by simp; omega), if_pos hj]
    simp [hj, h]
  · rw [List.getElem?_append_right (by simp; omega), if_neg hj, List.getElem?_drop]
    rw [List.getElem?_eq_getElem (by simp; omega)]
    congr 2
    simp; omega

def mixRow (l : List UInt8) (k pad : Nat) : Array Value := ((mixL l k).map fun b => Value.int .u8 b.toNat).toArray ++ Array.replicate pad (.int .u8 0)
theorem mixRow_get (l : List UInt8) (k pad j : Nat) (h : j < l.length) : (mixRow l k pad)[j]? = some (.int .u8 ((if j < k then small l[j] else l[j]).toNat : Int)) := by
  unfold mixRow
  rw [Array.getElem?_append_left (by simp [mixL_len, h])]
  simp [mixL_get l k j h]
theorem mixRow_set (l : List UInt8) (k pad : Nat) (h : k < l.length) : (mixRow l k pad).setIfInBounds k (.int .u8 ((small l[k]).toNat : Int)) = mixRow l (k + 1) pad := by
  apply Array.ext_getElem?
  intro i
  rw [Array.getElem?_setIfInBounds]
  have hsz : ∀ k', (mixRow l k' pad).size = l.length + pad := fun k' => by simp [mixRow, mixL_len]
  by_cases hik : k = i
  · subst hik
    rw [if_pos rfl, if_pos (by rw [hsz]; omega), mixRow_get _ _ _ _ h, if_pos (by omega)]
  · rw [if_neg hik]
    by_cases hi : i < l.length
    · rw [mixRow_get _ _ _ _ hi, mixRow_get _ _ _ _ hi]
      by_cases h2 : i < k
      · rw [if_pos h2, if_pos (by omega)]
      · rw [if_neg h2, if_neg (by omega)]
    · unfold mixRow
      rw [Array.getElem?_append_right (by simp [mixL_len]; omega), Array.getElem?_append_right (by simp [mixL_len]; omega)]
      simp [mixL_len]
theorem bytesRow_mix (s : ByteArray) (cap : Nat) : bytesRow s cap = mixRow s.data.toList 0 (cap - s.size) := by
  unfold bytesRow mixRow
  rw [mixL_zero]
  congr 1
  apply Array.ext'
  simp

set_option maxRecDepth 100000 in
theorem conv_low {w : World} {g pad cap : Nat} {r : Nat × Nat} (s : ByteArray) (h : MBlk w g 5 (mixRow s.data.toList s.size pad) r) :
    (convert 23 9 (.slice (some ⟨g, 0, none⟩) s.size cap)).run Tryz.prog w = .ok (.string ⟨(lowF s.data.toList).toArray⟩) w := by
  have := run_convert_bytes_back (P := Tryz.prog) w 23 9 5 ⟨g, 0, none⟩ cap (lowF s.data.toList) Tryz.underlying23 Tryz.underlying5 Tryz.underlying9 (fun j hj => by
    have e : (⟨g, 0, none⟩ : Addr).add j = ⟨g, j, none⟩ := by unfold Addr.add; by_cases h0 : j = 0 <;> simp [h0]
    have hj' : j < s.size := by simpa [lowF] using hj
    rw [e, h.cell j, mixRow_get _ _ _ _ (by rw [size_list]; exact hj'), if_pos hj']
    simp [lowF])
  have hl : (lowF s.data.toList).length = s.size := by simp [lowF]
  rwa [hl] at this

set_option maxHeartbeats 2000000 in
theorem refLow_any (s : ByteArray) (w : World) (hs : s.size ≤ 140737488351232) : Calls Tryz.prog 89 #[.string s] w fun e w' => e = .returned (.string ⟨(lowF s.data.toList).toArray⟩) ∧ Below w.heap.size w w' := by
  have hcv := fun w s => run_bytes_of_string (P := Tryz.prog) w 9 23 5 s Tryz.underlying9 Tryz.underlying23 Tryz.underlying5
  have hm0 := fun cap => Lib.hid (bytesRow_mix s cap)
  go_enter Tryz.func89, Tryz.ntmps89
  go_wp2
  generalize grownCap w s.size 0 5 = cap
  have hB0 : MBlk (w.alloc (.cells (bytesRow s cap) 5 ((bytesRow s cap).size, (bytesRow s cap).size + 1))).drew w.heap.size 5 (mixRow s.data.toList 0 (cap - s.size)) (s.size + (cap - s.size), s.size + (cap - s.size) + 1) := by
    have h := MBlk.new w 5 (bytesRow s cap) ((bytesRow s cap).size, (bytesRow s cap).size + 1)
    have hsz : (bytesRow s cap).size = s.size + (cap - s.size) := by simp [bytesRow]
    rw [hsz] at h ⊢
    rw [(hm0 cap).out] at h ⊢
    exact h
  have hbe0 : Below w.heap.size w (w.alloc (.cells (bytesRow s cap) 5 ((bytesRow s cap).size, (bytesRow s cap).size + 1))).drew := ((Below.refl _ w).alloc (Nat.le_refl _) _).drew
  generalize (w.alloc (.cells (bytesRow s cap) 5 ((bytesRow s cap).size, (bytesRow s cap).size + 1))).drew = w0 at hB0 hbe0 ⊢
  generalize cap - s.size = pad at hB0
  go_loopw [4] (fun i wr => ∃ k : Nat, k ≤ s.size ∧ i = .int .i64 k ∧ MBlk wr w.heap.size 5 (mixRow s.data.toList k pad) (s.size + pad, s.size + pad + 1) ∧ Below w.heap.size w wr) (fun i _ => s.size - (intOf i).toNat)
  case atStart => exact ⟨0, Nat.zero_le _, rfl, hB0, hbe0⟩
  case round =>
    obtain ⟨k, hk, rfl, hA, hb⟩ := hrel
    clear hB0 hbe0 hcv
    by_cases hlt : k < s.size
    · have a0 := hA.cell k
      have hk' : k < s.data.toList.length := by rw [size_list]; exact hlt
      rw [mixRow_get _ _ _ _ hk', if_neg (Nat.lt_irrefl k)] at a0
      have f0 := hA.frozen k (by simp; omega)
      have HS := Lib.hid (mixRow_set s.data.toList k pad hk')
      go_wp2_with fail
      refine (low_any _ _).mono ?_
      rintro e w1 ⟨rfl, rfl⟩
      go_wp2
      go_roundw
      case rel =>
        refine ⟨k + 1, by omega, by go_num, ?_, hb.setCell (by simp) _⟩
        rw [← HS.out]
        exact hA.set_ k _
      case measure => simp [intOf]; omega
    · have hks : k = s.size := by omega
      subst hks
      have c0 := conv_low (cap := cap) s hA
      go_wp2
      go_ret
      exact ⟨rfl, hb⟩
end Go.Proofs.YtjpmofnnjdhamaaGreatDoor.HeadS
namespace Go.Proofs.YtjpmofnnjdhamaaGreatDoor.HeadS
open Go.RowKit HeadMath

theorem size_trim (s : ByteArray) : (⟨(trimF s.data.toList).toArray⟩ : ByteArray).size ≤ s.size := by
  have h := trimF_len s.data.toList
  show (trimF s.data.toList).toArray.size ≤ s.size
  rw [List.size_toArray]
  rw [size_list] at h
  exact h

set_option maxHeartbeats 2000000 in
theorem refSame_any (a b : ByteArray) (w : World) (ha : a.size ≤ 140737488351232) (hb : b.size ≤ 140737488351232) : Calls Tryz.prog 64 #[.string a, .string b] w fun e w' => e = .returned (.bool (sameF a.data.toList b.data.toList)) ∧ Below w.heap.size w w' := by
  by_cases hl : a.size = b.size
  · have HL := Lib.hid hl
    have q : (((a.size : Nat) : Int) == (b.size : Int)) = true := by simp [hl]
    clear hl
    go_enter Tryz.func64, Tryz.ntmps64
    go_wp2_with fail
    refine (refLow_any _ _ ha).mono ?_
    rintro e w1 ⟨rfl, hb1⟩
    go_wp2_with fail
    refine (refLow_any _ _ hb).mono ?_
    rintro e w2 ⟨rfl, hb2⟩
    replace hb2 := hb1.trans (hb2.mono hb1.size)
    go_wp2
    go_ret
    exact ⟨ret_bool (by unfold sameF; rfl), hb2⟩
  · have q : (((a.size : Nat) : Int) == (b.size : Int)) = false := by simp; omega
    have HF := Lib.hid (sameF_len (a := a.data.toList) (b := b.data.toList) (by rw [size_list, size_list]; exact hl))
    clear hl
    go_enter Tryz.func64, Tryz.ntmps64
    go_wp2
    go_ret
    exact ⟨ret_bool (by rw [HF.out]), Below.refl _ _⟩

def trimR (s : List UInt8) : List UInt8 := (trimL s.reverse).reverse
theorem trimR_last {s : List UInt8} {c : UInt8} : trimR (s ++ [c]) = if blankB c = true then trimR s else s ++ [c] := by
  unfold trimR trimL
  rw [List.reverse_append]
  simp only [List.reverse_cons, List.reverse_nil, List.nil_append, List.singleton_append, List.dropWhile_cons]
  split <;> simp
theorem dropWhile_right (l : List UInt8) {c : UInt8} (h : blankB c = true) : trimR (trimL (l ++ [c])) = trimR (trimL l) := by
  induction l with
  | nil =>
    unfold trimL
    simp [h]
  | cons d l ih =>
    have e : ∀ x : List UInt8, trimL (d :: x) = if blankB d = true then trimL x else d :: x := fun x => by unfold trimL; rw [List.dropWhile_cons]
    rw [List.cons_append, e, e]
    split
    · exact ih
    · have := trimR_last (s := d :: l) (c := c)
      rw [if_pos h] at this
      exact this
theorem trimR_L (s : List UInt8) : trimR (trimL s) = trimF s := by
  have h0 : ∀ l : List UInt8, (trimL l.reverse).reverse = trimR l := fun _ => rfl
  suffices ∀ n, ∀ s : List UInt8, s.length = n → trimR (trimL s) = trimL (trimR s) by
    have h := this _ s rfl
    unfold trimF
    rw [h]
    unfold trimR
    rfl
  intro n
  induction n with
  | zero => intro s hs; rw [List.length_eq_zero_iff.1 hs]; rfl
  | succ n ih =>
    intro s hs
    have hne : s ≠ [] := by intro e; subst e; simp at hs
    obtain ⟨l, c, rfl⟩ : ∃ l c, s = l ++ [c] := ⟨s.dropLast, s.getLast hne, (List.dropLast_concat_getLast hne).symm⟩
    by_cases h : blankB c = true
    · rw [dropWhile_right l h, trimR_last, if_pos h]
      exact ih l (by simpa using hs)
    · rw [trimR_last, if_neg h]
      unfold trimR
      have : (trimL (l ++ [c])).getLast? = some c := by
        obtain ⟨u, hu, hb⟩ := trimL_suffix (l ++ [c])
        rcases List.eq_nil_or_concat (trimL (l ++ [c])) with h1 | ⟨l', d, h1⟩
        · rw [h1, List.append_nil] at hu
          exact absurd (hb c (by rw [← hu]; simp)) h
        · rw [h1]
          rw [h1] at hu
          have := congrArg List.getLast? hu
          simp at this
          simp [this]
      have h2 : trimL (trimL (l ++ [c])).reverse = (trimL (l ++ [c])).reverse := trimL_id (fun d hd => by
        rw [List.head?_reverse, this] at hd
        cases hd
        simpa using h)
      rw [h2, List.reverse_reverse]

theorem trimR_id {s : List UInt8} (h : ∀ c, s.getLast? = some c → blankB c = false) : trimR s = s := by
  unfold trimR
  rw [trimL_id (fun c hc => h c (by rwa [List.head?_reverse] at hc)), List.reverse_reverse]
theorem trimL_step {s : ByteArray} (h : 0 < s.size) (hb : blankB s[0] = true) : trimL (s.data.toList.drop 1) = trimL s.data.toList := by
  have h1 := head_at h
  cases hs : s.data.toList with
  | nil => rw [hs] at h1; cases h1
  | cons c l =>
    rw [hs] at h1
    simp at h1
    rw [← h1] at hb
    show trimL l = trimL (c :: l)
    unfold trimL
    rw [List.dropWhile_cons, if_pos hb]
theorem trimL_stop {s : ByteArray} (h : 0 < s.size) (hb : blankB s[0] = false) : trimL s.data.toList = s.data.toList :=
  trimL_id (fun c hc => by rw [head_at h] at hc; cases hc; exact hb)
theorem trimR_step {s : ByteArray} (h : 0 < s.size) (hb : blankB (s[s.size - 1]'(by omega)) = true) : trimR (s.data.toList.take (s.size - 1)) = trimR s.data.toList := by
  have h1 := last_at h
  have h2 : s.data.toList = s.data.toList.take (s.size - 1) ++ [s[s.size - 1]'(by omega)] := by
    have h' : s.size - 1 < s.data.toList.length := by rw [size_list]; omega
    have := List.take_succ_eq_append_getElem h'
    rw [show s.size - 1 + 1 = s.size from by omega, List.take_of_length_le (by rw [size_list]; exact Nat.le_refl _)] at this
    exact this
  have h3 := trimR_last (s := s.data.toList.take (s.size - 1)) (c := s[s.size - 1]'(by omega))
  rw [if_pos hb, ← h2] at h3
  exact h3.symm
theorem trimR_stop {s : ByteArray} (h : 0 < s.size) (hb : blankB (s[s.size - 1]'(by omega)) = false) : trimR s.data.toList = s.data.toList :=
  trimR_id (fun c hc => by rw [last_at h] at hc; cases hc; exact hb)
theorem list_nil {s : ByteArray} (h : s.size = 0) : s.data.toList = [] := List.eq_nil_of_length_eq_zero (by rw [size_list]; exact h)

def strSize (v : Value) : Nat := match v with | .string t => t.size | _ => 0
theorem extract_size (s : ByteArray) (a b : Nat) (_h : a ≤ b) (hb : b ≤ s.size) : (s.extract a b).size = b - a := by
  rw [ByteArray.size_extract, Nat.min_eq_left hb]
theorem data_as (s : ByteArray) {l : List UInt8} (h : s.data.toList = l) : s = ⟨l.toArray⟩ := by subst h; rfl

set_option maxHeartbeats 2000000 in
theorem refTrim_any (s : ByteArray) (w : World) (hs : s.size ≤ 140737488351232) : Calls Tryz.prog 81 #[.string s] w fun e w' => e = .returned (.string ⟨(trimF s.data.toList).toArray⟩) ∧ w = w' := by
  have HT := Lib.hid (trimR_L s.data.toList)
  go_enter Tryz.func81, Tryz.ntmps81
  go_wp2
  go_loop [0] (fun v => ∃ t : ByteArray, v = .string t ∧ t.size ≤ s.size ∧ trimL t.data.toList = trimL s.data.toList) strSize
  case atStart => exact ⟨s, rfl, Nat.le_refl _, rfl⟩
  case round =>
    obtain ⟨t, rfl, hts, hrel⟩ := hrel
    have HR := Lib.hid hrel
    clear hrel
    by_cases hz : t.size = 0
    · have HE := Lib.hid (show trimL t.data.toList = t.data.toList from by rw [list_nil hz]; rfl)
      go_wp2
      go_loop [0] (fun v => ∃ t : ByteArray, v = .string t ∧ t.size ≤ s.size ∧ trimR t.data.toList = trimF s.data.toList) strSize
      case atStart => exact ⟨t, rfl, hts, by rw [← HT.out, ← HR.out, HE.out]⟩
      case round =>
        obtain ⟨t, rfl, hts, hrel⟩ := hrel
        clear HR HE hz
        have HR := Lib.hid hrel
        clear hrel
        by_cases hz : t.size = 0
        · have HE := Lib.hid (list_nil hz)
          have HF := Lib.hid (data_as t (l := trimF s.data.toList) (by rw [← HR.out, HE.out]; rfl))
          go_wp2
          go_ret
          exact ⟨congrArg (fun x => Ending.returned (Value.string x)) HF.out, rfl⟩
        · have hpos : 0 < t.size := by omega
          have hlast : t.size - 1 < t.size := by omega
          cases hb : blankB (t[t.size - 1]'hlast) with
          | true =>
            have HS := Lib.hid (trimR_step hpos hb)
            have HX := Lib.hid (Lib.extract_data t 0 (t.size - 1))
            have HB := Lib.hid hb
            have hz1 := Lib.hid (extract_size t 0 (t.size - 1) (Nat.zero_le _) (Nat.sub_le _ _))
            clear hb
            go_wp2_with fail
            refine (blank_any _ _).mono ?_
            rintro e w1 ⟨rfl, rfl⟩
            rw [HB.out]
            go_wp2
            go_round
            case rel => exact ⟨_, rfl, by rw [hz1.out]; omega, by rw [HX.out, List.drop_zero, Nat.sub_zero, HS.out, HR.out]⟩
            case measure => show (t.extract 0 (t.size - 1)).size < t.size; rw [hz1.out]; omega
          | false =>
            have HB := Lib.hid hb
            have HS := Lib.hid (trimR_stop hpos hb)
            have HF := Lib.hid (data_as t (l := trimF s.data.toList) (by rw [← HR.out, HS.out]))
            clear hb
            go_wp2_with fail
            refine (blank_any _ _).mono ?_
            rintro e w1 ⟨rfl, rfl⟩
            rw [HB.out]
            go_wp2
            go_ret
            exact ⟨congrArg (fun x => Ending.returned (Value.string x)) HF.out, rfl⟩
    · have hpos : 0 < t.size := by omega
      cases hb : blankB t[0] with
      | true =>
        have HS := Lib.hid (trimL_step hpos hb)
        have HX := Lib.hid (Lib.extract_to_end t 1)
        have HB := Lib.hid hb
        have hz1 := Lib.hid (extract_size t 1 t.size (by omega) (Nat.le_refl _))
        clear hb
        go_wp2_with fail
        refine (blank_any _ _).mono ?_
        rintro e w1 ⟨rfl, rfl⟩
        rw [HB.out]
        go_wp2
        go_round
        case rel => exact ⟨_, rfl, by rw [hz1.out]; omega, by rw [HX.out, HS.out, HR.out]⟩
        case measure => show (t.extract 1 t.size).size < t.size; rw [hz1.out]; omega
      | false =>
        have HB := Lib.hid hb
        have HE := Lib.hid (trimL_stop hpos hb)
        clear hb
        go_wp2_with fail
        refine (blank_any _ _).mono ?_
        rintro e w1 ⟨rfl, rfl⟩
        rw [HB.out]
        go_wp2
        go_loop [0] (fun v => ∃ t : ByteArray, v = .string t ∧ t.size ≤ s.size ∧ trimR t.data.toList = trimF s.data.toList) strSize
        case atStart => exact ⟨t, rfl, hts, by rw [← HT.out, ← HR.out, HE.out]⟩
        case round =>
          obtain ⟨t, rfl, hts, hrel⟩ := hrel
          clear HR HE HB hz
          have HR := Lib.hid hrel
          clear hrel
          by_cases hz : t.size = 0
          · have HE := Lib.hid (list_nil hz)
            have HF := Lib.hid (data_as t (l := trimF s.data.toList) (by rw [← HR.out, HE.out]; rfl))
            go_wp2
            go_ret
            exact ⟨congrArg (fun x => Ending.returned (Value.string x)) HF.out, rfl⟩
          · have hpos : 0 < t.size := by omega
            have hlast : t.size - 1 < t.size := by omega
            cases hb : blankB (t[t.size - 1]'hlast) with
            | true =>
              have HS := Lib.hid (trimR_step hpos hb)
              have HX := Lib.hid (Lib.extract_data t 0 (t.size - 1))
              have HB := Lib.hid hb
              have hz1 := Lib.hid (extract_size t 0 (t.size - 1) (Nat.zero_le _) (Nat.sub_le _ _))
              clear hb
              go_wp2_with fail
              refine (blank_any _ _).mono ?_
              rintro e w1 ⟨rfl, rfl⟩
              rw [HB.out]
              go_wp2
              go_round
              case rel => exact ⟨_, rfl, by rw [hz1.out]; omega, by rw [HX.out, List.drop_zero, Nat.sub_zero, HS.out, HR.out]⟩
              case measure => show (t.extract 0 (t.size - 1)).size < t.size; rw [hz1.out]; omega
            | false =>
              have HB := Lib.hid hb
              have HS := Lib.hid (trimR_stop hpos hb)
              have HF := Lib.hid (data_as t (l := trimF s.data.toList) (by rw [← HR.out, HS.out]))
              clear hb
              go_wp2_with fail
              refine (blank_any _ _).mono ?_
              rintro e w1 ⟨rfl, rfl⟩
              rw [HB.out]
              go_wp2
              go_ret
              exact ⟨congrArg (fun x => Ending.returned (Value.string x)) HF.out, rfl⟩
end Go.Proofs.YtjpmofnnjdhamaaGreatDoor.HeadS
namespace Go.Proofs.YtjpmofnnjdhamaaGreatDoor.HeadS
open Go.RowKit HeadMath

/-- A row of texts in memory. -/
def StrsIn (B : Nat) (w : World) (a : Option Addr) (ls : List ByteArray) : Prop :=
  ∀ j (h : j < ls.length), ∃ b off, a = some ⟨b, off, none⟩ ∧ b < B ∧ w.cell? ⟨b, off + j, none⟩ = some (.string ls[j])
def Small (ls : List ByteArray) : Prop := ∀ j (h : j < ls.length), ls[j].size ≤ 140737488351232

def fieldAt (s : ByteArray) (i : Nat) : ByteArray × ByteArray := (s.extract 0 i, ⟨(trimF (s.extract (i + 1) s.size).data.toList).toArray⟩)
def fieldOf (s : ByteArray) : Option (ByteArray × ByteArray) :=
  if colonAt s < 0 then none
  else if tokenF (fieldAt s (colonAt s).toNat).1.data.toList = true ∧ valueF (fieldAt s (colonAt s).toNat).2.data.toList = true then some (fieldAt s (colonAt s).toNat) else none
def parseF : List ByteArray → Option (List (ByteArray × ByteArray))
  | [] => some []
  | s :: l => match fieldOf s with
    | none => none
    | some f => match parseF l with
      | none => none
      | some fs => some (f :: fs)
theorem parseF_snoc (l : List ByteArray) (s : ByteArray) : parseF (l ++ [s]) = match parseF l with
    | none => none
    | some fs => match fieldOf s with
      | none => none
      | some f => some (fs ++ [f]) := by
  induction l with
  | nil =>
    show parseF [s] = _
    unfold parseF
    cases fieldOf s <;> rfl
  | cons t l ih =>
    simp only [List.cons_append, parseF]
    cases fieldOf t with
    | none => rfl
    | some f =>
      simp only [ih]
      cases parseF l with
      | none => rfl
      | some fs => simp only []; cases fieldOf s <;> rfl
theorem parseF_none_of {l : List ByteArray} {k : Nat} (h : k < l.length) (hn : fieldOf l[k] = none) : parseF l = none := by
  induction l generalizing k with
  | nil => exact absurd h (by simp)
  | cons t l ih =>
    unfold parseF
    cases k with
    | zero => simp at hn; rw [hn]
    | succ k =>
      simp at hn h
      cases fieldOf t with
      | none => rfl
      | some f => simp only []; rw [ih h hn]
theorem parseF_take {l : List ByteArray} {k : Nat} (h : k < l.length) {fs : List (ByteArray × ByteArray)} {f : ByteArray × ByteArray} (h1 : parseF (l.take k) = some fs) (h2 : fieldOf l[k] = some f) :
    parseF (l.take (k + 1)) = some (fs ++ [f]) := by
  rw [List.take_succ_eq_append_getElem h, parseF_snoc, h1]
  simp only [h2]
theorem parseF_len {l : List ByteArray} {fs : List (ByteArray × ByteArray)} (h : parseF l = some fs) : fs.length = l.length := by
  induction l generalizing fs with
  | nil => simp [parseF] at h; subst h; rfl
  | cons t l ih =>
    unfold parseF at h
    cases h1 : fieldOf t with
    | none => rw [h1] at h; cases h
    | some f =>
      rw [h1] at h
      simp only [] at h
      cases h2 : parseF l with
      | none => rw [h2] at h; cases h
      | some gs =>
        rw [h2] at h
        cases h
        simp [ih h2]

def fieldCells (l : List (ByteArray × ByteArray)) : List Value := l.flatMap fun x => [.string x.1, .string x.2]
theorem fieldCells_snoc (l : List (ByteArray × ByteArray)) (x : ByteArray × ByteArray) : fieldCells (l ++ [x]) = fieldCells l ++ [.string x.1, .string x.2] := by simp [fieldCells]
theorem fieldInfo : (Tryz.prog.info? 59).map (fun i => (i.zero, i.size, i.bytes)) = some (some (.agg #[.string ⟨#[]⟩, .string ⟨#[]⟩]), 2, 32) := by kernel_rfl

def ParsePost (w : World) (ls : List ByteArray) (e : Ending) (w' : World) : Prop :=
  Below w.heap.size w w' ∧
  ((100 < ls.length ∧ e = .returned (.tuple #[.slice none 0 0, .int .i64 91])) ∨
   (ls.length ≤ 100 ∧ parseF ls = none ∧ e = .returned (.tuple #[.slice none 0 0, .int .i64 90])) ∨
   (ls.length ≤ 100 ∧ ∃ fs v, parseF ls = some fs ∧ e = .returned (.tuple #[v, .int .i64 0]) ∧ w'.ownsRow w.heap.size 59 2 v fs.length (fieldCells fs)))

theorem ownsRow_below {w w' : World} {base : Nat} {e : TypeId} {size : Nat} {v : Value} {n : Nat} {xs : List Value} (h : w.ownsRow base e size v n xs) (hb : Below w.heap.size w w') : w'.ownsRow base e size v n xs := by
  refine ⟨h.1, ?_⟩
  rcases h.2 with h0 | ⟨g, cap, cur, hv, hg, hc, rest⟩
  · exact .inl h0
  · refine .inr ⟨g, cap, cur, hv, hg, ?_, rest⟩
    have hlt : g < w.heap.size := by
      rcases Nat.lt_or_ge g w.heap.size with h1 | h1
      · exact h1
      · rw [Array.getElem?_eq_none h1] at hc; cases hc
    rw [hb.block g hlt]; exact hc
theorem fieldOf_none {s : ByteArray} (h : colonAt s < 0) : fieldOf s = none := by unfold fieldOf; rw [if_pos h]
theorem fieldOf_named {s nm rest vl : ByteArray} {i : Nat} (h : colonAt s = i) (h1 : s.extract 0 i = nm) (h2 : s.extract (i + 1) s.size = rest) (h3 : (⟨(trimF rest.data.toList).toArray⟩ : ByteArray) = vl) :
    fieldOf s = if tokenF nm.data.toList = true ∧ valueF vl.data.toList = true then some (nm, vl) else none := by
  subst h1 h2 h3
  unfold fieldOf
  rw [if_neg (by omega), h]; rfl
theorem cut_named {s nm rest : ByteArray} {i : Nat} (w : World) (hs : s.size ≤ 140737488351232) (h : colonAt s = i) (h1 : s.extract 0 i = nm) (h2 : s.extract (i + 1) s.size = rest) :
    Calls Tryz.prog 78 #[.string s, .string { data := #[58] }] w (DrewPost w (.tuple #[.string nm, .string rest, .bool true])) := by
  subst h1 h2
  exact cut_some s w hs i h
theorem trim_named {s vl : ByteArray} (w : World) (hs : s.size ≤ 140737488351232) (h : (⟨(trimF s.data.toList).toArray⟩ : ByteArray) = vl) :
    Calls Tryz.prog 102 #[.string s] w fun e w' => e = .returned (.string vl) ∧ Below w.heap.size w w' := by
  subst h
  exact trim_any s w hs
theorem trimSize {s : ByteArray} {n : Nat} (h : s.size ≤ n) : (⟨(trimF s.data.toList).toArray⟩ : ByteArray).size ≤ n := Nat.le_trans (size_trim s) h

set_option maxHeartbeats 4000000 in
theorem parse_some (ls : List ByteArray) (a : Option Addr) (cap : Nat) (w : World) (hin : StrsIn w.heap.size w a ls) (hsm : Small ls) (hle : ls.length ≤ 140737488351232) : Calls Tryz.prog 73 #[.slice a ls.length cap] w (ParsePost w ls) := by
  obtain ⟨i0, hi, hz0, hz1, hz2⟩ := info_parts fieldInfo
  have HIN := Lib.hid hin
  clear hin
  have hn0 : ({ data := #[] } : ByteArray).size = 0 := rfl
  go_enter Tryz.func73, Tryz.ntmps73
  by_cases hm : (100 : Int) < ls.length
  · go_wp2
    go_ret2
    exact ⟨Below.refl _ _, .inl ⟨by omega, rfl⟩⟩
  · go_wp2
    go_loopw [4, 15] (fun v i wr => ∃ (k : Nat) (fs : List (ByteArray × ByteArray)), k ≤ ls.length ∧ i = .int .i64 k ∧ Hid (parseF (ls.take k) = some fs) ∧ fs.length = k ∧
        wr.ownsRow w.heap.size 59 2 v fs.length (fieldCells fs) ∧ Below w.heap.size w wr)
      (fun _ i _ => ls.length - (intOf i).toNat)
    case atStart => exact ⟨0, [], Nat.zero_le _, rfl, Lib.hid rfl, rfl, World.ownsRow_nil _ _ _ _, Below.refl _ _⟩
    case round =>
      obtain ⟨k, fs, hk, rfl, HP, hfl, hown, hb⟩ := hrel
      by_cases hlt : k < ls.length
      · obtain ⟨b, off, rfl, hbl, hcell⟩ := HIN.out k hlt
        have hc := (hb.cell (p := ⟨b, off + k, none⟩) hbl).trans hcell
        clear hcell
        have HS := Lib.hid (show ls[k]? = some ls[k] from List.getElem?_eq_getElem hlt)
        have hssz := hsm k hlt
        generalize hsk : ls[k] = s at *
        have HK := Lib.hid hsk
        clear hsk
        by_cases hneg : colonAt s < 0
        · have HN := Lib.hid (parseF_none_of hlt (by rw [HK.out]; exact fieldOf_none hneg))
          go_wp2_with fail
          refine (cut_none s _ hssz hneg).mono ?_
          rintro e w1 ⟨m, rfl, rfl⟩
          go_wp2_with fail
          refine (trim_any _ _ (by rw [hn0]; omega)).mono ?_
          rintro e w2 ⟨rfl, hb2⟩
          go_wp2
          go_ret2
          exact ⟨(below_drewN hb m).trans (hb2.mono (below_drewN hb m).size), .inr (.inl ⟨by omega, HN.out, rfl⟩)⟩
        · obtain ⟨i, hci⟩ : ∃ i : Nat, colonAt s = i := ⟨(colonAt s).toNat, by omega⟩
          have his := colon_le s hci
          have HC := Lib.hid hci
          obtain ⟨nm, h1⟩ : ∃ nm, s.extract 0 i = nm := ⟨_, rfl⟩
          obtain ⟨rest, h2⟩ : ∃ rest, s.extract (i + 1) s.size = rest := ⟨_, rfl⟩
          obtain ⟨vl, h3⟩ : ∃ vl, (⟨(trimF rest.data.toList).toArray⟩ : ByteArray) = vl := ⟨_, rfl⟩
          have hx1 : nm.size ≤ 140737488351232 := by rw [← h1, extract_size s 0 i (Nat.zero_le _) (by omega)]; omega
          have hx2 : rest.size ≤ 140737488351232 := by rw [← h2, extract_size s (i + 1) s.size (by omega) (Nat.le_refl _)]; omega
          have hx3 : vl.size ≤ 140737488351232 := by rw [← h3]; exact trimSize hx2
          have HF := Lib.hid (fieldOf_named hci h1 h2 h3)
          have H1 := Lib.hid h1
          have H2 := Lib.hid h2
          have H3 := Lib.hid h3
          clear hneg hci h1 h2 h3
          cases ht : tokenF nm.data.toList with
          | false =>
            have HN := Lib.hid (parseF_none_of hlt (by rw [HK.out, HF.out, if_neg]; rintro ⟨q, _⟩; rw [ht] at q; cases q))
            have HT := Lib.hid ht
            clear ht
            go_wp2_with fail
            refine (cut_named _ hssz HC.out H1.out H2.out).mono ?_
            rintro e w1 ⟨m, rfl, rfl⟩
            go_wp2_with fail
            refine (trim_named _ hx2 H3.out).mono ?_
            rintro e w2 ⟨rfl, hb2⟩
            replace hb2 := (below_drewN hb m).trans (hb2.mono (below_drewN hb m).size)
            go_wp2_with fail
            refine (token_any _ _ hx1).mono ?_
            rintro e w3 ⟨rfl, rfl⟩
            rw [HT.out]
            go_wp2
            go_ret2
            exact ⟨hb2, .inr (.inl ⟨by omega, HN.out, rfl⟩)⟩
          | true =>
            have HT := Lib.hid ht
            clear ht
            cases hv : valueF vl.data.toList with
            | false =>
              have HN := Lib.hid (parseF_none_of hlt (by rw [HK.out, HF.out, if_neg]; rintro ⟨_, q⟩; rw [hv] at q; cases q))
              have HV := Lib.hid hv
              clear hv
              go_wp2_with fail
              refine (cut_named _ hssz HC.out H1.out H2.out).mono ?_
              rintro e w1 ⟨m, rfl, rfl⟩
              go_wp2_with fail
              refine (trim_named _ hx2 H3.out).mono ?_
              rintro e w2 ⟨rfl, hb2⟩
              replace hb2 := (below_drewN hb m).trans (hb2.mono (below_drewN hb m).size)
              go_wp2_with fail
              refine (token_any _ _ hx1).mono ?_
              rintro e w3 ⟨rfl, rfl⟩
              rw [HT.out]
              go_wp2_with fail
              refine (value_any _ _ hx3).mono ?_
              rintro e w3 ⟨rfl, hb3⟩
              rw [HV.out]
              replace hb3 := hb2.trans (hb3.mono hb2.size)
              go_wp2
              go_ret2
              exact ⟨hb3, .inr (.inl ⟨by omega, HN.out, rfl⟩)⟩
            | true =>
              have HG := Lib.hid (parseF_take hlt HP.out (by rw [HK.out, HF.out, if_pos ⟨HT.out, hv⟩]))
              have HV := Lib.hid hv
              clear hv
              go_wp2_with fail
              refine (cut_named _ hssz HC.out H1.out H2.out).mono ?_
              rintro e w1 ⟨m, rfl, rfl⟩
              go_wp2_with fail
              refine (trim_named _ hx2 H3.out).mono ?_
              rintro e w2 ⟨rfl, hb2⟩
              have hown2 := ownsRow_below (w := wr.drewN m) hown hb2
              replace hb2 := (below_drewN hb m).trans (hb2.mono (below_drewN hb m).size)
              go_wp2_with fail
              refine (token_any _ _ hx1).mono ?_
              rintro e w3 ⟨rfl, rfl⟩
              rw [HT.out]
              go_wp2_with fail
              refine (value_any _ _ hx3).mono ?_
              rintro e w3 ⟨rfl, hb3⟩
              rw [HV.out]
              have hown3 := ownsRow_below hown2 hb3
              replace hb3 := hb2.trans (hb3.mono hb2.size)
              have hsz := hb3.size
              clear hown hown2
              go_wp2_with (at_builtin; refine wpList_append_own _ rfl _ _ 22 rfl w.heap.size 59 i0 (.agg #[.string ⟨#[]⟩, .string ⟨#[]⟩]) 2 32 Tryz.underlying22 hi hz0 hz1 hz2 rfl (by decide) _ _ _ rfl (hown3.alloc _) ⟨w3.heap.size, 0, none⟩ 1 1 [.string nm, .string vl] rfl rfl ?c1U ?c2U ?c3U ?c4U ?c5U ?_)
              case c1U =>
                intro j u hj
                match j, hj with
                | 0, hj => simp at hj; subst hj; simp [Addr.add]
                | 1, hj => simp at hj; subst hj; simp [Addr.add]
              case c2U => intro u hu; simp at hu; rcases hu with rfl | rfl <;> rfl
              case c3U => unfold maxLen; omega
              case c4U => omega
              case c5U => simp; omega
              intro v' w4 hown' hgrow _
              have hb4 : Below w.heap.size w w4 := (hb3.alloc hsz _).grown hgrow (by simp; omega) (fun k hk => (hown3.lt k hk).1)
              clear hgrow hown3
              go_wp2
              go_roundw
              case rel =>
                refine ⟨k + 1, fs ++ [(nm, vl)], by omega, by go_num, HG, by simp [hfl], ?_, hb4⟩
                rw [fieldCells_snoc]; simpa [hfl] using hown'
              case measure => simp [intOf]; omega
      · have hkn : k = ls.length := by omega
        have HE := Lib.hid (show parseF ls = some fs from by have := HP.out; rwa [hkn, List.take_of_length_le (Nat.le_refl _)] at this)
        go_wp2
        go_ret2
        exact ⟨hb, .inr (.inr ⟨by omega, fs, _, HE.out, rfl, hown⟩)⟩
end Go.Proofs.YtjpmofnnjdhamaaGreatDoor.HeadS
namespace Go.Proofs.YtjpmofnnjdhamaaGreatDoor.HeadS
open Go.RowKit HeadMath

/-- A row of fields in memory. -/
def FieldsIn (B : Nat) (w : World) (a : Option Addr) (l : List (ByteArray × ByteArray)) : Prop :=
  ∀ j (h : j < l.length), ∃ b off, a = some ⟨b, off, none⟩ ∧ b < B ∧ w.cell? ⟨b, off + j * 2, none⟩ = some (.string l[j].1) ∧ w.cell? ⟨b, off + j * 2 + 1, none⟩ = some (.string l[j].2)
def SmallF (l : List (ByteArray × ByteArray)) : Prop := ∀ j (h : j < l.length), l[j].1.size ≤ 140737488351232 ∧ l[j].2.size ≤ 140737488351232

def isNamed (n : ByteArray) (f : ByteArray × ByteArray) : Bool := sameF f.1.data.toList n.data.toList
def getF (n : ByteArray) (l : List (ByteArray × ByteArray)) : Option ByteArray := (l.find? (isNamed n)).map (·.2)
theorem getF_none {n : ByteArray} {l : List (ByteArray × ByteArray)} (h : ∀ j (h : j < l.length), isNamed n l[j] = false) : getF n l = none := by
  unfold getF
  rw [List.find?_eq_none.2]
  · rfl
  · intro x hx
    obtain ⟨j, hj, rfl⟩ := List.getElem_of_mem hx
    rw [h j hj]; simp
theorem getF_some {n : ByteArray} {l : List (ByteArray × ByteArray)} {k : Nat} (hk : k < l.length) (h : ∀ j (hj : j < l.length), j < k → isNamed n l[j] = false) (ht : isNamed n l[k] = true) : getF n l = some l[k].2 := by
  unfold getF
  have : l.find? (isNamed n) = some l[k] := by
    rw [List.find?_eq_some_iff_getElem]
    exact ⟨ht, k, hk, rfl, fun j hj => by simp [h j (by omega) hj]⟩
  rw [this]; rfl

def GetPost (n : ByteArray) (l : List (ByteArray × ByteArray)) (w : World) (e : Ending) (w' : World) : Prop :=
  Below w.heap.size w w' ∧ ((getF n l = none ∧ e = .returned (.tuple #[.string { data := #[] }, .bool false])) ∨ ∃ v, getF n l = some v ∧ e = .returned (.tuple #[.string v, .bool true]))

set_option maxHeartbeats 4000000 in
theorem get_any (l : List (ByteArray × ByteArray)) (n : ByteArray) (a : Option Addr) (cap : Nat) (w : World) (hin : FieldsIn w.heap.size w a l) (hsm : SmallF l) (hle : l.length ≤ 140737488351232) (hn : n.size ≤ 140737488351232) :
    Calls Tryz.prog 65 #[.slice a l.length cap, .string n] w (GetPost n l w) := by
  have HIN := Lib.hid hin
  clear hin
  go_enter Tryz.func65, Tryz.ntmps65
  go_wp2
  go_loopw [10] (fun i wr => ∃ k : Nat, k ≤ l.length ∧ i = .int .i64 k ∧ Hid (∀ j (h : j < l.length), j < k → isNamed n l[j] = false) ∧ Below w.heap.size w wr) (fun i _ => l.length - (intOf i).toNat)
  case atStart => exact ⟨0, Nat.zero_le _, rfl, Lib.hid (fun j _ h => absurd h (Nat.not_lt_zero _)), Below.refl _ _⟩
  case round =>
    obtain ⟨k, hk, rfl, HA, hb⟩ := hrel
    by_cases hlt : k < l.length
    · obtain ⟨b, off, rfl, hbl, hc1, hc2⟩ := HIN.out k hlt
      have hs1 := hsm k hlt
      have x0 := (hb.cell (p := ⟨b, off + k * 2, none⟩) hbl).trans hc1
      have x1 := (hb.cell (p := ⟨b, off + k * 2 + 1, none⟩) hbl).trans hc2
      clear hc1 hc2
      obtain ⟨nm, vl, hf⟩ : ∃ nm vl, l[k] = (nm, vl) := ⟨_, _, rfl⟩
      have HF := Lib.hid hf
      simp only [hf] at x0 x1 hs1
      clear hf
      have hb' := hb.alloc (o := .cells #[.string nm, .string vl] 59) hb.size
      cases ht : sameF nm.data.toList n.data.toList with
      | true =>
        have HG := Lib.hid (getF_some hlt (fun j hj h => HA.out j hj h) (by rw [HF.out]; exact ht))
        have HT := Lib.hid ht
        clear ht
        go_wp2_with fail
        refine (same_any _ _ _ hs1.1 hn).mono ?_
        rintro e w1 ⟨m, rfl, rfl⟩
        rw [HT.out]
        go_wp2
        go_ret2
        exact ⟨below_drewN hb' m, .inr ⟨vl, by rw [HG.out, HF.out], rfl⟩⟩
      | false =>
        have HN := Lib.hid (show ∀ j (h : j < l.length), j < k + 1 → isNamed n l[j] = false from fun j hj h => by
          by_cases hjk : j = k
          · subst hjk; rw [HF.out]; exact ht
          · exact HA.out j hj (by omega))
        have HT := Lib.hid ht
        clear ht
        go_wp2_with fail
        refine (same_any _ _ _ hs1.1 hn).mono ?_
        rintro e w1 ⟨m, rfl, rfl⟩
        rw [HT.out]
        go_wp2
        go_roundw
        case rel => exact ⟨k + 1, by omega, by go_num, HN, below_drewN hb' m⟩
        case measure => simp [intOf]; omega
    · have HG := Lib.hid (getF_none (n := n) (l := l) (fun j hj => HA.out j hj (by omega)))
      go_wp2
      go_ret2
      exact ⟨hb, .inl ⟨HG.out, rfl⟩⟩
end Go.Proofs.YtjpmofnnjdhamaaGreatDoor.HeadS
namespace Go.Proofs.YtjpmofnnjdhamaaGreatDoor.HeadS
open Go.RowKit HeadMath

def allF (n : ByteArray) (l : List (ByteArray × ByteArray)) : List ByteArray := (l.filter (isNamed n)).map (·.2)
theorem allF_yes {n : ByteArray} {l : List (ByteArray × ByteArray)} {k : Nat} (h : k < l.length) (ht : isNamed n l[k] = true) : allF n (l.take (k + 1)) = allF n (l.take k) ++ [l[k].2] := by
  unfold allF
  rw [List.take_succ_eq_append_getElem h, List.filter_append, List.map_append]
  simp [ht]
theorem allF_no {n : ByteArray} {l : List (ByteArray × ByteArray)} {k : Nat} (h : k < l.length) (ht : isNamed n l[k] = false) : allF n (l.take (k + 1)) = allF n (l.take k) := by
  unfold allF
  rw [List.take_succ_eq_append_getElem h, List.filter_append, List.map_append]
  simp [ht]
theorem allF_len (n : ByteArray) (l : List (ByteArray × ByteArray)) : (allF n l).length ≤ l.length := by
  unfold allF
  rw [List.length_map]
  exact List.length_filter_le _ _
def strCells (l : List ByteArray) : List Value := l.map fun s => .string s
theorem strCells_snoc (l : List ByteArray) (s : ByteArray) : strCells (l ++ [s]) = strCells l ++ [.string s] := by simp [strCells]
theorem strInfo : (Tryz.prog.info? 9).map (fun i => (i.zero, i.size, i.bytes)) = some (some (.string ⟨#[]⟩), 1, 16) := by kernel_rfl
theorem ownsRow_drewN {w : World} {base : Nat} {e : TypeId} {size : Nat} {v : Value} {n : Nat} {xs : List Value} (h : w.ownsRow base e size v n xs) (m : Nat) : (w.drewN m).ownsRow base e size v n xs := h

def RowPost (w : World) (r : List ByteArray) (e : Ending) (w' : World) : Prop :=
  ∃ v, e = .returned v ∧ w'.ownsRow w.heap.size 9 1 v r.length (strCells r) ∧ Below w.heap.size w w'

set_option maxHeartbeats 4000000 in
theorem all_any (l : List (ByteArray × ByteArray)) (n : ByteArray) (a : Option Addr) (cap : Nat) (w : World) (hin : FieldsIn w.heap.size w a l) (hsm : SmallF l) (hle : l.length ≤ 1000000000000) (hn : n.size ≤ 140737488351232) :
    Calls Tryz.prog 45 #[.slice a l.length cap, .string n] w (RowPost w (allF n l)) := by
  obtain ⟨i0, hi, hz0, hz1, hz2⟩ := info_parts strInfo
  have HIN := Lib.hid hin
  clear hin
  go_enter Tryz.func45, Tryz.ntmps45
  go_wp2
  go_loopw [5, 10] (fun v i wr => ∃ (k : Nat) (r : List ByteArray), k ≤ l.length ∧ i = .int .i64 k ∧ Hid (allF n (l.take k) = r) ∧ r.length ≤ k ∧ wr.ownsRow w.heap.size 9 1 v r.length (strCells r) ∧ Below w.heap.size w wr) (fun _ i _ => l.length - (intOf i).toNat)
  case atStart => exact ⟨0, [], Nat.zero_le _, rfl, Lib.hid rfl, Nat.le_refl _, World.ownsRow_nil _ _ _ _, Below.refl _ _⟩
  case round =>
    obtain ⟨k, r, hk, rfl, HA, hrl, hown, hb⟩ := hrel
    by_cases hlt : k < l.length
    · obtain ⟨b, off, rfl, hbl, hc1, hc2⟩ := HIN.out k hlt
      have hs1 := hsm k hlt
      have x0 := (hb.cell (p := ⟨b, off + k * 2, none⟩) hbl).trans hc1
      have x1 := (hb.cell (p := ⟨b, off + k * 2 + 1, none⟩) hbl).trans hc2
      clear hc1 hc2
      obtain ⟨nm, vl, hf⟩ : ∃ nm vl, l[k] = (nm, vl) := ⟨_, _, rfl⟩
      have HF := Lib.hid hf
      simp only [hf] at x0 x1 hs1
      clear hf
      have hb' := hb.alloc (o := .cells #[.string nm, .string vl] 59) hb.size
      have hown' := hown.alloc (.cells #[.string nm, .string vl] 59)
      cases ht : sameF nm.data.toList n.data.toList with
      | true =>
        have HG := Lib.hid (show allF n (l.take (k + 1)) = r ++ [vl] from by rw [allF_yes hlt (by rw [HF.out]; exact ht), HA.out, HF.out])
        have HT := Lib.hid ht
        clear ht
        go_wp2_with fail
        refine (same_any _ _ _ hs1.1 hn).mono ?_
        rintro e w1 ⟨m, rfl, hw1⟩
        rw [HT.out]
        have hown1 := ownsRow_drewN hown' m
        have hb1 := below_drewN hb' m
        have hB := MBlk.new wr 59 #[.string nm, .string vl] (0, 0)
        have y1 : w1.cell? ⟨wr.heap.size, 1, none⟩ = some (.string vl) := by rw [hw1]; exact hB.cell 1
        rw [← hw1] at hown1 hb1
        have hsz := hb1.size
        clear hw1 hB hown hown' x0 x1
        go_wp2_with (at_builtin; refine wpList_append_own _ rfl _ _ 45 rfl w.heap.size 9 i0 (.string ⟨#[]⟩) 1 16 Tryz.underlying45 hi hz0 hz1 hz2 rfl (by decide) _ _ _ rfl (hown1.alloc _) ⟨w1.heap.size, 0, none⟩ 1 1 [.string vl] rfl rfl ?c1U ?c2U ?c3U ?c4U ?c5U ?_)
        case c1U =>
          intro j u hj
          match j, hj with
          | 0, hj => simp at hj; subst hj; simp [Addr.add]
        case c2U => intro u hu; simp at hu; subst hu; rfl
        case c3U => unfold maxLen; omega
        case c4U => omega
        case c5U => simp; omega
        intro v' w4 hown4 hgrow _
        have hb4 : Below w.heap.size w w4 := (hb1.alloc hsz _).grown hgrow (by simp; omega) (fun k hk => (hown1.lt k hk).1)
        clear hgrow hown1
        go_wp2
        go_roundw
        case rel =>
          refine ⟨k + 1, r ++ [vl], by omega, by go_num, HG, by simp; omega, ?_, hb4⟩
          rw [strCells_snoc]; simpa using hown4
        case measure => simp [intOf]; omega
      | false =>
        have HG := Lib.hid (show allF n (l.take (k + 1)) = r from by rw [allF_no hlt (by rw [HF.out]; exact ht), HA.out])
        have HT := Lib.hid ht
        clear ht
        go_wp2_with fail
        refine (same_any _ _ _ hs1.1 hn).mono ?_
        rintro e w1 ⟨m, rfl, rfl⟩
        rw [HT.out]
        go_wp2
        go_roundw
        case rel => exact ⟨k + 1, r, by omega, by go_num, HG, by omega, ownsRow_drewN hown' m, below_drewN hb' m⟩
        case measure => simp [intOf]; omega
    · have HG := Lib.hid (show allF n l = r from by have := HA.out; rwa [List.take_of_length_le (by omega)] at this)
      go_wp2
      go_ret
      rw [HG.out]
      exact ⟨_, rfl, hown, hb⟩
end Go.Proofs.YtjpmofnnjdhamaaGreatDoor.HeadS
namespace Go.Proofs.YtjpmofnnjdhamaaGreatDoor.HeadS
open Go.RowKit HeadMath

def endF : Bool → Bool → List UInt8 → Nat
  | _, _, [] => 0
  | q, true, _ :: r => 1 + endF q false r
  | true, false, c :: r => if c = 92 then 1 + endF true true r else if c = 34 then 1 + endF false false r else 1 + endF true false r
  | false, false, c :: r => if c = 34 then 1 + endF true false r else if c = 44 then 0 else 1 + endF false false r
theorem endF_le : ∀ (q t : Bool) (l : List UInt8), endF q t l ≤ l.length
  | _, _, [] => by simp [endF]
  | q, true, _ :: r => by have := endF_le q false r; simp [endF]; omega
  | true, false, c :: r => by
    have h1 := endF_le true true r
    have h2 := endF_le false false r
    have h3 := endF_le true false r
    simp only [endF, List.length_cons]
    split
    · omega
    · split <;> omega
  | false, false, c :: r => by
    have h1 := endF_le true false r
    have h2 := endF_le false false r
    simp only [endF, List.length_cons]
    split
    · omega
    · split <;> omega
theorem drop_at (s : ByteArray) (k : Nat) (h : k < s.size) : s.data.toList.drop k = s[k] :: s.data.toList.drop (k + 1) := by
  have h' : k < s.data.toList.length := by rw [size_list]; exact h
  rw [List.drop_eq_getElem_cons h']; rfl

set_option maxHeartbeats 4000000 in
theorem partEnd_any (s : ByteArray) (w : World) (hs : s.size ≤ 140737488351232) :
    Calls Tryz.prog 132 #[.string s] w fun e w' => e = .returned (.int .i64 (endF false false s.data.toList)) ∧ w = w' := by
  go_enter Tryz.func132, Tryz.ntmps132
  go_wp2
  go_loopw [3, 4, 9] (fun Q T i wr => ∃ (k : Nat) (q t : Bool), k ≤ s.size ∧ i = .int .i64 k ∧ Q = .bool q ∧ T = .bool t ∧ Hid (k + endF q t (s.data.toList.drop k) = endF false false s.data.toList) ∧ w = wr) (fun _ _ i _ => s.size - (intOf i).toNat)
  case atStart => exact ⟨0, false, false, Nat.zero_le _, rfl, rfl, rfl, Lib.hid (by simp), rfl⟩
  case round =>
    obtain ⟨k, q, t, hk, rfl, rfl, rfl, HA, rfl⟩ := hrel
    by_cases hlt : k < s.size
    · have e92 := u8_beq_lit s[k] 92 (by omega)
      have e34 := u8_beq_lit s[k] 34 (by omega)
      have e44 := u8_beq_lit s[k] 44 (by omega)
      cases t with
      | true =>
        have HN := Lib.hid (show (k + 1) + endF q false (s.data.toList.drop (k + 1)) = endF false false s.data.toList from by
          have h := HA.out
          rw [drop_at s k hlt] at h
          simp only [endF] at h
          omega)
        clear HA
        clear e92 e34 e44
        go_wp2
        go_roundw
        case rel => exact ⟨k + 1, _, _, by omega, by go_num, rfl, rfl, HN, trivial⟩
        case measure => simp [intOf]; omega
      | false =>
        cases q with
        | true =>
          by_cases h92 : s[k] = 92
          · have q92 : ((s[k].toNat : Int) == 92) = true := by rw [h92]; rfl
            have HN := Lib.hid (show (k + 1) + endF true true (s.data.toList.drop (k + 1)) = endF false false s.data.toList from by
              have h := HA.out
              rw [drop_at s k hlt] at h
              simp only [endF, h92, if_true] at h
              omega)
            clear HA
            clear e92 e34 e44 h92
            go_wp2
            go_roundw
            case rel => exact ⟨k + 1, _, _, by omega, by go_num, rfl, rfl, HN, trivial⟩
            case measure => simp [intOf]; omega
          · have q92 : ((s[k].toNat : Int) == 92) = false := e92.trans (by simpa using h92)
            by_cases h34 : s[k] = 34
            · have q34 : ((s[k].toNat : Int) == 34) = true := by rw [h34]; rfl
              have HN := Lib.hid (show (k + 1) + endF false false (s.data.toList.drop (k + 1)) = endF false false s.data.toList from by
                have h := HA.out
                rw [drop_at s k hlt] at h
                simp only [endF, if_neg h92, if_pos h34] at h
                omega)
              clear HA
              clear e92 e34 e44 h34 h92
              go_wp2
              go_roundw
              case rel => exact ⟨k + 1, _, _, by omega, by go_num, rfl, rfl, HN, trivial⟩
              case measure => simp [intOf]; omega
            · have q34 : ((s[k].toNat : Int) == 34) = false := e34.trans (by simpa using h34)
              by_cases h44 : s[k] = 44
              · have q44 : ((s[k].toNat : Int) == 44) = true := by rw [h44]; rfl
                have HN := Lib.hid (show (k + 1) + endF true false (s.data.toList.drop (k + 1)) = endF false false s.data.toList from by
                  have h := HA.out
                  rw [drop_at s k hlt] at h
                  simp only [endF, if_neg h92, if_neg h34] at h
                  omega)
                clear HA
                clear e92 e34 e44 h34 h92 h44
                go_wp2
                go_roundw
                case rel => exact ⟨k + 1, _, _, by omega, by go_num, rfl, rfl, HN, trivial⟩
                case measure => simp [intOf]; omega
              · have q44 : ((s[k].toNat : Int) == 44) = false := e44.trans (by simpa using h44)
                have HN := Lib.hid (show (k + 1) + endF true false (s.data.toList.drop (k + 1)) = endF false false s.data.toList from by
                  have h := HA.out
                  rw [drop_at s k hlt] at h
                  simp only [endF, if_neg h92, if_neg h34] at h
                  omega)
                clear HA
                clear e92 e34 e44 h34 h92 h44
                go_wp2
                go_roundw
                case rel => exact ⟨k + 1, _, _, by omega, by go_num, rfl, rfl, HN, trivial⟩
                case measure => simp [intOf]; omega
        | false =>
          by_cases h34 : s[k] = 34
          · have q34 : ((s[k].toNat : Int) == 34) = true := by rw [h34]; rfl
            have HN := Lib.hid (show (k + 1) + endF true false (s.data.toList.drop (k + 1)) = endF false false s.data.toList from by
              have h := HA.out
              rw [drop_at s k hlt] at h
              simp only [endF, if_pos h34] at h
              omega)
            clear HA
            clear e92 e34 e44 h34
            go_wp2
            go_roundw
            case rel => exact ⟨k + 1, _, _, by omega, by go_num, rfl, rfl, HN, trivial⟩
            case measure => simp [intOf]; omega
          · have q34 : ((s[k].toNat : Int) == 34) = false := e34.trans (by simpa using h34)
            by_cases h44 : s[k] = 44
            · have q44 : ((s[k].toNat : Int) == 44) = true := by rw [h44]; rfl
              have HN := Lib.hid (show k = endF false false s.data.toList from by
                have h := HA.out
                rw [drop_at s k hlt] at h
                simp only [endF, if_neg h34, if_pos h44] at h
                omega)
              clear HA e92 e34 e44 h34 h44
              go_wp2
              go_ret
              exact ⟨ret_int (by rw [← HN.out]), rfl⟩
            · have q44 : ((s[k].toNat : Int) == 44) = false := e44.trans (by simpa using h44)
              have HN := Lib.hid (show (k + 1) + endF false false (s.data.toList.drop (k + 1)) = endF false false s.data.toList from by
                have h := HA.out
                rw [drop_at s k hlt] at h
                simp only [endF, if_neg h34, if_neg h44] at h
                omega)
              clear HA
              clear e92 e34 e44 h34 h44
              go_wp2
              go_roundw
              case rel => exact ⟨k + 1, _, _, by omega, by go_num, rfl, rfl, HN, trivial⟩
              case measure => simp [intOf]; omega
    · have HN := Lib.hid (show s.size = endF false false s.data.toList from by
        have h := HA.out
        have hks : k = s.size := by omega
        rw [hks, List.drop_of_length_le (by rw [size_list]; exact Nat.le_refl _)] at h
        cases q <;> cases t <;> simp only [endF] at h <;> omega)
      go_wp2
      go_ret
      exact ⟨ret_int (by rw [← HN.out]), rfl⟩
end Go.Proofs.YtjpmofnnjdhamaaGreatDoor.HeadS
