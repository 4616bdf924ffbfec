/-
  An address parted at its first question mark, in the program and in the reference.
-/
import Derived.Test.YtokgpmelhmaokaaDoorNormRefEsc
namespace Go.Proofs.YtokgpmelhmaokaaDoor
open Go.RowKit HeadMath NormMath

def DrewPost (w : World) (v : Value) (e : Ending) (w' : World) : Prop := ∃ m : Nat, e = .returned v ∧ w' = w.drewN m
def askAt (s : ByteArray) : Int := Lib.indexByte s.data.toList 63
theorem askAt_index (s : ByteArray) (w : World) :
    Calls Tryd.prog 55 #[.string s, .string { data := #[63] }] w fun e w' => e = .returned (.int .i64 (askAt s)) ∧ w' = w := Tryd.stringslite_Index_one s 63 w

set_option maxHeartbeats 2000000 in
theorem cutLite_none (s : ByteArray) (w : World) (_hs : s.size ≤ 140737488351232) (hi : askAt s < 0) : Calls Tryd.prog 41 #[.string s, .string { data := #[63] }] w (DrewPost w (.tuple #[.string s, .string { data := #[] }, .bool false])) := by
  go_enter Tryd.func41, Tryd.ntmps41
  go_wp2_with fail
  refine (askAt_index _ _).mono ?_
  rintro e w1 ⟨rfl, rfl⟩
  go_wp2
  go_ret3
  exact ⟨0, rfl, rfl⟩

theorem ask_le (s : ByteArray) {i : Nat} (h : askAt s = i) : i < s.size := by
  have h1 := (Lib.indexByte_some h).1
  rcases Nat.lt_or_ge i s.data.toList.length with h2 | h2
  · rwa [size_list] at h2
  · rw [List.getElem?_eq_none h2] at h1; cases h1

set_option maxHeartbeats 2000000 in
theorem cutLite_some (s : ByteArray) (w : World) (hs : s.size ≤ 140737488351232) (i : Nat) (hi : askAt s = i) : Calls Tryd.prog 41 #[.string s, .string { data := #[63] }] w (DrewPost w (.tuple #[.string (s.extract 0 i), .string (s.extract (i + 1) s.size), .bool true])) := by
  have hlt := ask_le s hi
  have hlen : ({ data := #[63] } : ByteArray).size = 1 := rfl
  have HI := Lib.hid hi
  clear hi
  go_enter Tryd.func41, Tryd.ntmps41
  go_wp2_with fail
  refine (askAt_index _ _).mono ?_
  rintro e w1 ⟨rfl, rfl⟩
  rw [HI.out]
  have hw : IntKind.i64.wrap ((i : Int) + 1) = (i : Int) + 1 := IntWalk.i64_in _ (by omega)
  go_wp2
  go_quiet (fail)
  go_wp2
  go_ret3
  exact ⟨_, rfl, rfl⟩


set_option maxHeartbeats 2000000 in
theorem cut_none (s : ByteArray) (w : World) (hs : s.size ≤ 140737488351232) (hi : askAt s < 0) : Calls Tryd.prog 26 #[.string s, .string { data := #[63] }] w (DrewPost w (.tuple #[.string s, .string { data := #[] }, .bool false])) := by
  go_enter Tryd.func26, Tryd.ntmps26
  go_wp2_with fail
  refine (cutLite_none s _ hs hi).mono ?_
  rintro e w1 ⟨m, rfl, rfl⟩
  go_wp2
  go_ret3
  exact ⟨m, rfl, rfl⟩

set_option maxHeartbeats 2000000 in
theorem cut_some (s : ByteArray) (w : World) (hs : s.size ≤ 140737488351232) (i : Nat) (hi : askAt s = i) : Calls Tryd.prog 26 #[.string s, .string { data := #[63] }] w (DrewPost w (.tuple #[.string (s.extract 0 i), .string (s.extract (i + 1) s.size), .bool true])) := by
  have HI := Lib.hid hi
  clear hi
  go_enter Tryd.func26, Tryd.ntmps26
  go_wp2_with fail
  refine (cutLite_some s _ hs i HI.out).mono ?_
  rintro e w1 ⟨m, rfl, rfl⟩
  go_wp2
  go_ret3
  exact ⟨m, rfl, rfl⟩
theorem ask_is {s : ByteArray} {k : Nat} (hk : k < s.size) (h : s[k] = 63) (hb : ∀ j (h : j < s.size), j < k → s[j] ≠ 63) : askAt s = (k : Int) := by
  have hl : s.data.toList[k]? = some 63 := by
    rw [List.getElem?_eq_getElem (by rw [size_list]; exact hk)]
    exact congrArg some h
  have hge := Lib.indexByte_ge s.data.toList 63
  unfold askAt
  rcases (show Lib.indexByte s.data.toList 63 < 0 ∨ 0 ≤ Lib.indexByte s.data.toList 63 by omega) with h0 | h0
  · exact absurd hl (Lib.indexByte_none (by omega) k)
  · obtain ⟨o, ho⟩ : ∃ o : Nat, Lib.indexByte s.data.toList 63 = o := ⟨(Lib.indexByte s.data.toList 63).toNat, by omega⟩
    obtain ⟨h1, h2⟩ := Lib.indexByte_some ho
    rw [ho]
    rcases Nat.lt_trichotomy o k with h3 | h3 | h3
    · have ho2 : o < s.size := by omega
      rw [List.getElem?_eq_getElem (by rw [size_list]; exact ho2)] at h1
      exact absurd (Option.some.inj h1) (hb o ho2 h3)
    · rw [h3]
    · exact absurd hl (h2 k h3)
theorem ask_no {s : ByteArray} (hb : ∀ j (h : j < s.size), s[j] ≠ 63) : askAt s < 0 := by
  have hge := Lib.indexByte_ge s.data.toList 63
  unfold askAt
  rcases (show Lib.indexByte s.data.toList 63 < 0 ∨ 0 ≤ Lib.indexByte s.data.toList 63 by omega) with h0 | h0
  · exact h0
  · obtain ⟨o, ho⟩ : ∃ o : Nat, Lib.indexByte s.data.toList 63 = o := ⟨(Lib.indexByte s.data.toList 63).toNat, by omega⟩
    obtain ⟨h1, h2⟩ := Lib.indexByte_some ho
    have ho2 : o < s.size := by
      rcases Nat.lt_or_ge o s.data.toList.length with h3 | h3
      · rwa [size_list] at h3
      · rw [List.getElem?_eq_none h3] at h1; cases h1
    rw [List.getElem?_eq_getElem (by rw [size_list]; exact ho2)] at h1
    exact absurd (Option.some.inj h1) (hb o ho2)
def splitV (s : ByteArray) : Value :=
  if askAt s < 0 then .tuple #[.string s, .string { data := #[] }, .bool false]
  else .tuple #[.string (s.extract 0 (askAt s).toNat), .string (s.extract ((askAt s).toNat + 1) s.size), .bool true]
theorem splitV_no {s : ByteArray} (h : askAt s < 0) : splitV s = .tuple #[.string s, .string { data := #[] }, .bool false] := by unfold splitV; rw [if_pos h]
theorem splitV_at {s : ByteArray} {i : Nat} (h : askAt s = i) : splitV s = .tuple #[.string (s.extract 0 i), .string (s.extract (i + 1) s.size), .bool true] := by
  unfold splitV; rw [if_neg (by omega), h]; rfl
set_option maxHeartbeats 2000000 in
theorem split_any (s : ByteArray) (w : World) (hs : s.size ≤ 140737488351232) : Calls Tryd.prog 12 #[.string s] w (DrewPost w (splitV s)) := by
  by_cases h : askAt s < 0
  · have HV := Lib.hid (splitV_no h)
    go_enter Tryd.func12, Tryd.ntmps12
    go_wp2_with fail
    refine (cut_none s _ hs h).mono ?_
    rintro e w1 ⟨m, rfl, rfl⟩
    go_wp2
    go_ret3
    rw [HV.out]
    exact ⟨m, rfl, rfl⟩
  · obtain ⟨i, hi⟩ : ∃ i : Nat, askAt s = i := ⟨(askAt s).toNat, by omega⟩
    have HV := Lib.hid (splitV_at hi)
    have HI := Lib.hid hi
    clear h hi
    go_enter Tryd.func12, Tryd.ntmps12
    go_wp2_with fail
    refine (cut_some s _ hs i HI.out).mono ?_
    rintro e w1 ⟨m, rfl, rfl⟩
    go_wp2
    go_ret3
    rw [HV.out]
    exact ⟨m, rfl, rfl⟩
set_option maxHeartbeats 2000000 in
theorem refSplit_any (s : ByteArray) (w : World) (hs : s.size ≤ 140737488351232) : Calls Tryd.prog 13 #[.string s] w (DrewPost w (splitV s)) := by
  go_enter Tryd.func13, Tryd.ntmps13
  go_wp2
  go_loop [5] (fun i => ∃ k : Nat, k ≤ s.size ∧ i = .int .i64 k ∧ Hid (∀ j (h : j < s.size), j < k → s[j] ≠ 63)) (fun i => s.size - (intOf i).toNat)
  case atStart => exact ⟨0, Nat.zero_le _, rfl, Lib.hid (fun j _ hj => by omega)⟩
  case round =>
    obtain ⟨k, hk, rfl, HA⟩ := hrel
    by_cases hlt : k < s.size
    · by_cases hc : s[k] = 63
      · have q : ((s[k].toNat : Int) == 63) = true := (u8_beq_lit _ 63 (by decide)).trans (by simpa using hc)
        have HV := Lib.hid (splitV_at (ask_is hlt hc HA.out))
        clear hc
        go_wp2
        go_quiet (fail)
        go_wp2
        go_ret3
        rw [HV.out]
        exact ⟨_, rfl, rfl⟩
      · have q : ((s[k].toNat : Int) == 63) = false := (u8_beq_lit _ 63 (by decide)).trans (by simpa using hc)
        have HN := Lib.hid (show ∀ j (h : j < s.size), j < k + 1 → s[j] ≠ 63 from fun j h1 h2 => by
          by_cases hjk : j = k
          · subst hjk; exact hc
          · exact HA.out j h1 (by omega))
        clear hc
        go_wp2
        go_round
        case rel => exact ⟨k + 1, by omega, by go_num, HN⟩
        case measure => simp [intOf]; omega
    · have HV := Lib.hid (splitV_no (ask_no (s := s) (fun j h => HA.out j h (by omega))))
      go_wp2
      go_ret3
      rw [HV.out]
      exact ⟨0, rfl, rfl⟩
end Go.Proofs.YtokgpmelhmaokaaDoor
