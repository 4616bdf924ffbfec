/-
  A line cut at its first colon, in the program.
-/
import Derived.Test.YtkfnebpooohflaaDoorHeadStrs
namespace Go.Proofs.YtkfnebpooohflaaDoor.HeadS
open Go.RowKit HeadMath

def colonAt (s : ByteArray) : Int := Lib.indexByte s.data.toList 58
theorem colonAt_index (s : ByteArray) (w : World) :
    Calls Tryd.prog 71 #[.string s, .string { data := #[58] }] w fun e w' => e = .returned (.int .i64 (colonAt s)) ∧ w' = w := Tryd.stringslite_Index_one s 58 w

set_option maxHeartbeats 2000000 in
theorem cutLite_none (s : ByteArray) (w : World) (_hs : s.size ≤ 140737488351232) (hi : colonAt s < 0) : Calls Tryd.prog 59 #[.string s, .string { data := #[58] }] w (DrewPost w (.tuple #[.string s, .string { data := #[] }, .bool false])) := by
  go_enter Tryd.func59, Tryd.ntmps59
  go_wp2_with fail
  refine (colonAt_index _ _).mono ?_
  rintro e w1 ⟨rfl, rfl⟩
  go_wp2
  go_ret3
  exact ⟨0, rfl, rfl⟩

theorem colon_le (s : ByteArray) {i : Nat} (h : colonAt s = i) : i < s.size := by
  have h1 := (Lib.indexByte_some h).1
  rcases Nat.lt_or_ge i s.data.toList.length with h2 | h2
  · rwa [size_list] at h2
  · rw [List.getElem?_eq_none h2] at h1; cases h1

set_option maxHeartbeats 2000000 in
theorem cutLite_some (s : ByteArray) (w : World) (hs : s.size ≤ 140737488351232) (i : Nat) (hi : colonAt s = i) : Calls Tryd.prog 59 #[.string s, .string { data := #[58] }] w (DrewPost w (.tuple #[.string (s.extract 0 i), .string (s.extract (i + 1) s.size), .bool true])) := by
  have hlt := colon_le s hi
  have hlen : ({ data := #[58] } : ByteArray).size = 1 := rfl
  have HI := Lib.hid hi
  clear hi
  go_enter Tryd.func59, Tryd.ntmps59
  go_wp2_with fail
  refine (colonAt_index _ _).mono ?_
  rintro e w1 ⟨rfl, rfl⟩
  rw [HI.out]
  have hw : IntKind.i64.wrap ((i : Int) + 1) = (i : Int) + 1 := IntWalk.i64_in _ (by omega)
  go_wp2
  go_quiet (fail)
  go_wp2
  go_ret3
  exact ⟨_, rfl, rfl⟩


set_option maxHeartbeats 2000000 in
theorem cut_none (s : ByteArray) (w : World) (hs : s.size ≤ 140737488351232) (hi : colonAt s < 0) : Calls Tryd.prog 45 #[.string s, .string { data := #[58] }] w (DrewPost w (.tuple #[.string s, .string { data := #[] }, .bool false])) := by
  go_enter Tryd.func45, Tryd.ntmps45
  go_wp2_with fail
  refine (cutLite_none s _ hs hi).mono ?_
  rintro e w1 ⟨m, rfl, rfl⟩
  go_wp2
  go_ret3
  exact ⟨m, rfl, rfl⟩

set_option maxHeartbeats 2000000 in
theorem cut_some (s : ByteArray) (w : World) (hs : s.size ≤ 140737488351232) (i : Nat) (hi : colonAt s = i) : Calls Tryd.prog 45 #[.string s, .string { data := #[58] }] w (DrewPost w (.tuple #[.string (s.extract 0 i), .string (s.extract (i + 1) s.size), .bool true])) := by
  have HI := Lib.hid hi
  clear hi
  go_enter Tryd.func45, Tryd.ntmps45
  go_wp2_with fail
  refine (cutLite_some s _ hs i HI.out).mono ?_
  rintro e w1 ⟨m, rfl, rfl⟩
  go_wp2
  go_ret3
  exact ⟨m, rfl, rfl⟩
end Go.Proofs.YtkfnebpooohflaaDoor.HeadS