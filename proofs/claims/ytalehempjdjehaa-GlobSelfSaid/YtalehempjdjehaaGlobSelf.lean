/-
  A text's own pattern matches it alone, and ** all: ambrylaw24.GlobSelf returns true, whatever it is given.
-/
import Derived.Test.YtalehempjdjehaaGlobKnown
namespace Go.Proofs.Ytalehempjdjehaa
open Go.RowKit GlobMath

theorem append_list (a b : ByteArray) : (a ++ b).data.toList = a.data.toList ++ b.data.toList := by
  rw [ByteArray.data_append]; simp
theorem data_eq {a b : ByteArray} (h : a.data.toList = b.data.toList) : a = b := by
  obtain ⟨⟨x⟩⟩ := a
  obtain ⟨⟨y⟩⟩ := b
  simp at h; subst h; rfl

set_option maxHeartbeats 1000000 in
theorem self_any (a b : ByteArray) (w : World) (ha : a.size ≤ 140737488351232) (hb : b.size ≤ 140737488351232) :
    Calls Try.prog 4 #[.string a, .string b] w fun e w' => e = .returned (.bool true) ∧ Below w.heap.size w w' := by
  by_cases h1 : (90 : Int) < a.size
  · go_enter Try.func4, Try.ntmps4
    go_wp2_with (go_at_call 8; refine (known_any _).mono ?_; rintro e w1 ⟨rfl, hb1⟩)
    go_ret
    exact ⟨rfl, hb1⟩
  · have h1' : (a.size : Int) ≤ 90 := by omega
    have g1 : decide ((90 : Int) < a.size) = false := by simp; omega
    clear h1
    by_cases h2 : (300 : Int) < b.size
    · go_enter Try.func4, Try.ntmps4
      go_wp2_with (go_at_call 8; refine (known_any _).mono ?_; rintro e w1 ⟨rfl, hb1⟩)
      go_ret
      exact ⟨rfl, hb1⟩
    · have h2' : (b.size : Int) ≤ 300 := by omega
      have g2 : decide ((300 : Int) < b.size) = false := by simp; omega
      clear h2
      have hal : a.data.toList.length ≤ 90 := by rw [size_list]; omega
      have hab : ∃ r : Bool, (a.toList == b.toList) = r ∧ matchF (literalF a.data.toList) b.data.toList = r := by
        refine ⟨_, rfl, ?_⟩
        rw [match_literal _ _ hal, Lib.toList_data, Lib.toList_data]
        rw [Bool.eq_iff_iff, beq_iff_eq, decide_eq_true_iff]
      obtain ⟨r, hr1, hr2⟩ := hab
      have HR := Lib.hid hr2
      have HL := Lib.hid hal
      have hl2 : (literalF a.data.toList).length ≤ 200 := by have := literalF_len a.data.toList; omega
      clear hr2 hal
      go_enter Try.func4, Try.ntmps4
      go_wp2_with (go_at_call 8; refine (known_any _).mono ?_; rintro e w1 ⟨rfl, hb1⟩)
      refine (literal_any a _ (by omega)).mono ?_
      rintro e w2 ⟨rfl, hb2⟩
      replace hb2 := hb1.trans (hb2.mono hb1.size)
      go_wp2_with fail
      refine (match_at _ _ true _ (by simp [match_literal _ _ HL.out]) (by simp [ByteArray.size]; omega) (by omega)).mono ?_
      rintro e w3 ⟨rfl, hb3⟩
      replace hb3 := hb2.trans (hb3.mono hb2.size)
      go_wp2_with fail
      refine (literal_any a _ (by omega)).mono ?_
      rintro e w4 ⟨rfl, hb4⟩
      replace hb4 := hb3.trans (hb4.mono hb3.size)
      go_wp2_with fail
      refine (match_at _ _ r _ (by simpa using HR.out) (by simp [ByteArray.size]; omega) (by omega)).mono ?_
      rintro e w5 ⟨rfl, hb5⟩
      replace hb5 := hb4.trans (hb5.mono hb4.size)
      go_wp2_with fail
      refine (match_at _ _ true _ (match_all _) (by decide) (by omega)).mono ?_
      rintro e w6 ⟨rfl, hb6⟩
      replace hb6 := hb5.trans (hb6.mono hb5.size)
      go_wp2_with fail
      refine (literal_any a _ (by omega)).mono ?_
      rintro e w7 ⟨rfl, hb7⟩
      replace hb7 := hb6.trans (hb7.mono hb6.size)
      go_wp2_with fail
      refine (match_at _ _ true _ (by rw [append_list, append_list]; exact match_head _ _ HL.out) (by rw [ByteArray.size_append]; simp [ByteArray.size]; omega) (by rw [ByteArray.size_append]; omega)).mono ?_
      rintro e w8 ⟨rfl, hb8⟩
      replace hb8 := hb7.trans (hb8.mono hb7.size)
      go_wp2_with fail
      refine (literal_any a _ (by omega)).mono ?_
      rintro e w9 ⟨rfl, hb9⟩
      replace hb9 := hb8.trans (hb9.mono hb8.size)
      go_wp2_with fail
      refine (match_at _ _ true _ (by rw [append_list, append_list]; exact match_tail _ _ HL.out) (by rw [ByteArray.size_append]; simp [ByteArray.size]; omega) (by rw [ByteArray.size_append]; omega)).mono ?_
      rintro e w10 ⟨rfl, hb10⟩
      replace hb10 := hb9.trans (hb10.mono hb9.size)
      go_wp2
      go_ret
      exact ⟨by simp, hb10⟩
end Go.Proofs.Ytalehempjdjehaa
