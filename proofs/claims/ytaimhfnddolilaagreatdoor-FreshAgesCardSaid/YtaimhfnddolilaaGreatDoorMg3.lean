/-
  A text parted at its first equals sign.
  Seconds, in the program and in the reference.
-/
import Derived.LoopTactic
import Derived.Outline
import Derived.WalkSpells
import Derived.WalkLawsBesides
import Derived.IntWalk
import Derived.Laws.BitsAllLaws
import Derived.Deep.QuietTactic
import Derived.BigQuiet
import Derived.Laws.IdiomStrings
import Derived.Laws.BytesString
import Derived.Deep.RegionWith
import Derived.Deep.AppendLies
import Derived.Test.YtaimhfnddolilaaGreatDoorMg1
import Derived.Test.YtaimhfnddolilaaGreatDoorMg2
namespace Go.Proofs.YtaimhfnddolilaaGreatDoor.CtrlS
open Go.RowKit HeadMath HeadS

def DrewPostE (w : World) (v : Value) (e : Ending) (w' : World) : Prop := ∃ m : Nat, e = .returned v ∧ w' = w.drewN m
def eqAt (s : ByteArray) : Int := Lib.indexByte s.data.toList 61
theorem eqAt_index (s : ByteArray) (w : World) :
    Calls Tryz.prog 105 #[.string s, .string { data := #[61] }] w fun e w' => e = .returned (.int .i64 (eqAt s)) ∧ w' = w := Tryz.stringslite_Index_one s 61 w

set_option maxHeartbeats 2000000 in
theorem cutLiteE_none (s : ByteArray) (w : World) (_hs : s.size ≤ 140737488351232) (hi : eqAt s < 0) : Calls Tryz.prog 88 #[.string s, .string { data := #[61] }] w (DrewPostE w (.tuple #[.string s, .string { data := #[] }, .bool false])) := by
  go_enter Tryz.func88, Tryz.ntmps88
  go_wp2_with fail
  refine (eqAt_index _ _).mono ?_
  rintro e w1 ⟨rfl, rfl⟩
  go_wp2
  go_ret3
  exact ⟨0, rfl, rfl⟩

theorem eq_le (s : ByteArray) {i : Nat} (h : eqAt s = i) : i < s.size := by
  have h1 := (Lib.indexByte_some h).1
  rcases Nat.lt_or_ge i s.data.toList.length with h2 | h2
  · rwa [size_list] at h2
  · rw [List.getElem?_eq_none h2] at h1; cases h1

set_option maxHeartbeats 2000000 in
theorem cutLiteE_some (s : ByteArray) (w : World) (hs : s.size ≤ 140737488351232) (i : Nat) (hi : eqAt s = i) : Calls Tryz.prog 88 #[.string s, .string { data := #[61] }] w (DrewPostE w (.tuple #[.string (s.extract 0 i), .string (s.extract (i + 1) s.size), .bool true])) := by
  have hlt := eq_le s hi
  have hlen : ({ data := #[61] } : ByteArray).size = 1 := rfl
  have HI := Lib.hid hi
  clear hi
  go_enter Tryz.func88, Tryz.ntmps88
  go_wp2_with fail
  refine (eqAt_index _ _).mono ?_
  rintro e w1 ⟨rfl, rfl⟩
  rw [HI.out]
  have hw : IntKind.i64.wrap ((i : Int) + 1) = (i : Int) + 1 := IntWalk.i64_in _ (by omega)
  go_wp2
  go_quiet (fail)
  go_wp2
  go_ret3
  exact ⟨_, rfl, rfl⟩


set_option maxHeartbeats 2000000 in
theorem cutE_none (s : ByteArray) (w : World) (hs : s.size ≤ 140737488351232) (hi : eqAt s < 0) : Calls Tryz.prog 69 #[.string s, .string { data := #[61] }] w (DrewPostE w (.tuple #[.string s, .string { data := #[] }, .bool false])) := by
  go_enter Tryz.func69, Tryz.ntmps69
  go_wp2_with fail
  refine (cutLiteE_none s _ hs hi).mono ?_
  rintro e w1 ⟨m, rfl, rfl⟩
  go_wp2
  go_ret3
  exact ⟨m, rfl, rfl⟩

set_option maxHeartbeats 2000000 in
theorem cutE_some (s : ByteArray) (w : World) (hs : s.size ≤ 140737488351232) (i : Nat) (hi : eqAt s = i) : Calls Tryz.prog 69 #[.string s, .string { data := #[61] }] w (DrewPostE w (.tuple #[.string (s.extract 0 i), .string (s.extract (i + 1) s.size), .bool true])) := by
  have HI := Lib.hid hi
  clear hi
  go_enter Tryz.func69, Tryz.ntmps69
  go_wp2_with fail
  refine (cutLiteE_some s _ hs i HI.out).mono ?_
  rintro e w1 ⟨m, rfl, rfl⟩
  go_wp2
  go_ret3
  exact ⟨m, rfl, rfl⟩
theorem eq_is {s : ByteArray} {k : Nat} (hk : k < s.size) (h : s[k] = 61) (hb : ∀ j (h : j < s.size), j < k → s[j] ≠ 61) : eqAt s = (k : Int) := by
  have hl : s.data.toList[k]? = some 61 := by
    rw [List.getElem?_eq_getElem (by rw [size_list]; exact hk)]
    exact congrArg some h
  have hge := Lib.indexByte_ge s.data.toList 61
  unfold eqAt
  rcases (show Lib.indexByte s.data.toList 61 < 0 ∨ 0 ≤ Lib.indexByte s.data.toList 61 by omega) with h0 | h0
  · exact absurd hl (Lib.indexByte_none (by omega) k)
  · obtain ⟨o, ho⟩ : ∃ o : Nat, Lib.indexByte s.data.toList 61 = o := ⟨(Lib.indexByte s.data.toList 61).toNat, by omega⟩
    obtain ⟨h1, h2⟩ := Lib.indexByte_some ho
    rw [ho]
    rcases Nat.lt_trichotomy o k with h3 | h3 | h3
    · have ho2 : o < s.size := by omega
      rw [List.getElem?_eq_getElem (by rw [size_list]; exact ho2)] at h1
      exact absurd (Option.some.inj h1) (hb o ho2 h3)
    · rw [h3]
    · exact absurd hl (h2 k h3)
theorem eq_no {s : ByteArray} (hb : ∀ j (h : j < s.size), s[j] ≠ 61) : eqAt s < 0 := by
  have hge := Lib.indexByte_ge s.data.toList 61
  unfold eqAt
  rcases (show Lib.indexByte s.data.toList 61 < 0 ∨ 0 ≤ Lib.indexByte s.data.toList 61 by omega) with h0 | h0
  · exact h0
  · obtain ⟨o, ho⟩ : ∃ o : Nat, Lib.indexByte s.data.toList 61 = o := ⟨(Lib.indexByte s.data.toList 61).toNat, by omega⟩
    obtain ⟨h1, h2⟩ := Lib.indexByte_some ho
    have ho2 : o < s.size := by
      rcases Nat.lt_or_ge o s.data.toList.length with h3 | h3
      · rwa [size_list] at h3
      · rw [List.getElem?_eq_none h3] at h1; cases h1
    rw [List.getElem?_eq_getElem (by rw [size_list]; exact ho2)] at h1
    exact absurd (Option.some.inj h1) (hb o ho2)
end Go.Proofs.YtaimhfnddolilaaGreatDoor.CtrlS
namespace Go.Proofs.YtaimhfnddolilaaGreatDoor.CtrlS
open Go.RowKit HeadMath HeadS

theorem take_next {s : ByteArray} {k : Nat} (h : k < s.size) : s.data.toList.take (k + 1) = s.data.toList.take k ++ [s[k]] := by
  rw [List.take_succ_eq_append_getElem (by rw [size_list]; exact h)]
  rfl
/-- The scan of a text's digits at place k. -/
def SecAt (s : ByteArray) (k : Nat) (z : Int) : Prop := (s.data.toList.take k).all digitB = true ∧ z = (s.data.toList.take k).foldl stepS (-1)
theorem secAt_zero (s : ByteArray) : SecAt s 0 (-1) := ⟨rfl, rfl⟩
theorem SecAt.next {s : ByteArray} {k : Nat} {z : Int} (h : SecAt s k z) (hk : k < s.size) (hd : digitB s[k] = true) : SecAt s (k + 1) (stepS z s[k]) := by
  obtain ⟨h1, rfl⟩ := h
  refine ⟨?_, ?_⟩
  · rw [take_next hk, List.all_append, h1]; simpa using hd
  · rw [take_next hk, List.foldl_append]; rfl
theorem SecAt.end {s : ByteArray} {k : Nat} {z : Int} (h : SecAt s k z) (hk : ¬ k < s.size) : z = secF s.data.toList := by
  obtain ⟨h1, rfl⟩ := h
  have e : s.data.toList.take k = s.data.toList := List.take_of_length_le (by rw [size_list]; omega)
  rw [e] at h1 ⊢
  exact (secF_end h1).symm
theorem SecAt.in {s : ByteArray} {k : Nat} {z : Int} (h : SecAt s k z) : -1 ≤ z ∧ z ≤ 2147483647 := by
  obtain ⟨h1, rfl⟩ := h
  exact fold_in _ _ h1 (Int.le_refl _) (by unfold maxAge; omega)
theorem secF_at {s : ByteArray} {k : Nat} (hk : k < s.size) (hd : digitB s[k] = false) : secF s.data.toList = -1 :=
  secF_bad (c := s[k]) (by
    show s.data.toList[k]'(by rw [size_list]; exact hk) ∈ _
    exact List.getElem_mem _) hd
def SecPost (s : ByteArray) (w : World) (e : Ending) (w' : World) : Prop := e = .returned (.int .i64 (secF s.data.toList)) ∧ w' = w
set_option maxRecDepth 100000 in
set_option maxHeartbeats 4000000 in
theorem seconds_any (s : ByteArray) (w : World) (hs : s.size ≤ 140737488351232) : Calls Tryz.prog 30 #[.string s] w (SecPost s w) := by
  unfold SecPost
  go_enter Tryz.func30, Tryz.ntmps30
  go_wp2
  go_loop [3, 7] (fun n i => ∃ (k : Nat) (z : Int), k ≤ s.size ∧ n = .int .i64 z ∧ i = .int .i64 k ∧ Hid (SecAt s k z)) (fun _ i => s.size - (intOf i).toNat)
  case atStart => exact ⟨0, -1, Nat.zero_le _, rfl, rfl, Lib.hid (secAt_zero s)⟩
  case round =>
    obtain ⟨k, z, hk, rfl, rfl, HA⟩ := hrel
    by_cases hlt : k < s.size
    · cases hd : digitB s[k] with
      | false =>
        have HV := Lib.hid (secF_at hlt hd)
        have HD := Lib.hid hd
        clear hd
        go_wp2_with fail
        refine (digit_any s[k] _).mono ?_
        rintro e w1 ⟨rfl, rfl⟩
        rw [HD.out]
        go_wp2
        go_ret
        exact ⟨by rw [HV.out]; rfl, rfl⟩
      | true =>
        have HN := Lib.hid (HA.out.next hlt hd)
        have HD := Lib.hid hd
        have hz := HA.out.in
        have hdd : 48 ≤ s[k].toNat ∧ s[k].toNat ≤ 57 := by have := hd; unfold digitB at this; rwa [decide_eq_true_iff] at this
        have hu : IntKind.u8.wrap ((s[k].toNat : Int) - 48) = (s[k].toNat : Int) - 48 := IntWalk.u8_in _ (by omega)
        clear hd
        go_wp2_with fail
        refine (digit_any s[k] _).mono ?_
        rintro e w1 ⟨rfl, rfl⟩
        rw [HD.out]
        go_wp2
        go_round
        case rel => exact ⟨k + 1, _, by omega, rfl, by go_num, HN⟩
        case measure => simp [intOf]; omega
    · have HV := Lib.hid (HA.out.end hlt)
      go_wp2
      go_ret
      exact ⟨by rw [HV.out]; rfl, rfl⟩
set_option maxRecDepth 100000 in
set_option maxHeartbeats 4000000 in
theorem refSeconds_any (s : ByteArray) (w : World) (hs : s.size ≤ 140737488351232) : Calls Tryz.prog 32 #[.string s] w (SecPost s w) := by
  unfold SecPost
  by_cases h0 : s.size = 0
  · have hl : s.data.toList = [] := List.eq_nil_of_length_eq_zero (by rw [size_list]; exact h0)
    have HV : Hid (secF s.data.toList = -1) := Lib.hid (by rw [hl]; rfl)
    have e0 : s.toList.isEmpty = true := by rw [Lib.toList_data, hl]; rfl
    clear hl h0
    go_enter Tryz.func32, Tryz.ntmps32
    go_wp2
    go_ret
    exact ⟨by rw [HV.out]; rfl, rfl⟩
  · have e0 : s.toList.isEmpty = false := by
      rw [Lib.toList_data, List.isEmpty_eq_false_iff]
      intro h
      have := congrArg List.length h
      rw [size_list] at this
      exact h0 this
    go_enter Tryz.func32, Tryz.ntmps32
    go_wp2
    go_loop [3, 4] (fun n i => ∃ (k : Nat) (z : Int), k ≤ s.size ∧ n = .int .i64 (max z 0) ∧ i = .int .i64 k ∧ Hid (SecAt s k z ∧ (0 < k → 0 ≤ z))) (fun _ i => s.size - (intOf i).toNat)
    case atStart => exact ⟨0, -1, Nat.zero_le _, rfl, rfl, Lib.hid ⟨secAt_zero s, fun h => by omega⟩⟩
    case round =>
      obtain ⟨k, z, hk, rfl, rfl, HA⟩ := hrel
      by_cases hlt : k < s.size
      · rcases (show s[k].toNat < 48 ∨ 57 < s[k].toNat ∨ (48 ≤ s[k].toNat ∧ s[k].toNat ≤ 57) from by omega) with h | h | h
        · have HV := Lib.hid (secF_at hlt (show digitB s[k] = false from by unfold digitB; rw [decide_eq_false_iff_not]; omega))
          have g1 : (s[k].toNat : Int) < 48 := by omega
          go_wp2
          go_ret
          exact ⟨by rw [HV.out]; rfl, rfl⟩
        · have HV := Lib.hid (secF_at hlt (show digitB s[k] = false from by unfold digitB; rw [decide_eq_false_iff_not]; omega))
          have g1 : (57 : Int) < s[k].toNat := by omega
          have g2 : ¬ (s[k].toNat : Int) < 48 := by omega
          go_wp2
          go_ret
          exact ⟨by rw [HV.out]; rfl, rfl⟩
        · have hd : digitB s[k] = true := by unfold digitB; rw [decide_eq_true_iff]; omega
          have HN := Lib.hid (HA.out.1.next hlt hd)
          have hn0 := (stepS_in z s[k] hd).1
          have HN0 := Lib.hid hn0
          have HE : Hid (min (10 * max z 0 + ((s[k].toNat : Int) - 48)) 2147483647 = max (stepS z s[k]) 0) := Lib.hid (by
            rw [Int.max_eq_left hn0]; unfold stepS maxAge; omega)
          have hz := HA.out.1.in
          have g1 : ¬ (s[k].toNat : Int) < 48 := by omega
          have g2 : ¬ (57 : Int) < s[k].toNat := by omega
          have hu : IntKind.u8.wrap ((s[k].toNat : Int) - 48) = (s[k].toNat : Int) - 48 := IntWalk.u8_in _ (by omega)
          clear hd hn0
          go_wp2
          go_round
          case rel => exact ⟨k + 1, _, by omega, by rw [← HE.out], by go_num, Lib.hid ⟨HN.out, fun _ => HN0.out⟩⟩
          case measure => simp [intOf]; omega
      · have HV := Lib.hid (HA.out.1.end hlt)
        have HZ : Hid (max z 0 = z) := Lib.hid (by have := HA.out.2 (by omega); omega)
        go_wp2
        go_ret
        exact ⟨by rw [← HV.out, ← HZ.out]; simp, rfl⟩
end Go.Proofs.YtaimhfnddolilaaGreatDoor.CtrlS
