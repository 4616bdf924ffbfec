/-
  glob's Literal answers the pattern that the mathematics says.
-/
import Derived.Test.YtalehempjdjehaaGlobMatch
import Derived.Test.YtalehempjdjehaaBuilder
namespace Go.Proofs.Ytalehempjdjehaa
open Go.RowKit GlobMath

def spIdx (c : UInt8) : Int := Lib.indexByte [42, 63, 92] c
theorem spIdx_yes {c : UInt8} (h : special c = true) : 0 ≤ spIdx c := by
  simp only [special, Bool.or_eq_true, beq_iff_eq] at h
  rcases h with (rfl | rfl) | rfl <;> decide
theorem spIdx_no {c : UInt8} (h : special c = false) : spIdx c < 0 := by
  simp only [special, Bool.or_eq_false_iff, beq_eq_false_iff_ne] at h
  obtain ⟨⟨h1, h2⟩, h3⟩ := h
  have e1 : ((42 : UInt8) == c) = false := by simpa using fun e => h1 e.symm
  have e2 : ((63 : UInt8) == c) = false := by simpa using fun e => h2 e.symm
  have e3 : ((92 : UInt8) == c) = false := by simpa using fun e => h3 e.symm
  simp [spIdx, Lib.indexByte, e1, e2, e3]
theorem indexOf_special (c : UInt8) (w : World) :
    Calls Try.prog 17 #[.string { data := #[42, 63, 92] }, .int .u8 c.toNat] w fun e w' => e = .returned (.int .i64 (spIdx c)) ∧ w = w' := by
  refine (Try.strings_IndexByte _ _ w).mono ?_
  rintro e w' ⟨rfl, rfl⟩
  refine ⟨?_, rfl⟩
  unfold spIdx
  simp

theorem literalF_take (s : ByteArray) (k : Nat) (h : k < s.size) : literalF (s.data.toList.take (k + 1)) = literalF (s.data.toList.take k) ++ (if special s[k] then [92, s[k]] else [s[k]]) := by
  have h' : k < s.data.toList.length := by rw [size_list]; exact h
  rw [List.take_succ_eq_append_getElem h', literalF_snoc]
  rfl
theorem literalF_take_len (s : ByteArray) (k : Nat) : (literalF (s.data.toList.take k)).length ≤ 2 * s.size := by
  have h1 := literalF_len (s.data.toList.take k)
  have h2 : (s.data.toList.take k).length ≤ s.size := by rw [List.length_take, size_list]; exact Nat.min_le_right _ _
  omega
theorem built_empty {w : World} : Lib.IsBuilder 43 5 w.heap.size w.heap.size [] (w.alloc (.cells #[.pointer none, .slice none 0 0] 43)) := Lib.fresh_isBuilder _ _ w

set_option maxHeartbeats 2000000 in
theorem literal_any (s : ByteArray) (w : World) (hs : s.size ≤ 1000000000000) :
    Calls Try.prog 13 #[.string s] w fun e w' => e = .returned (.string ⟨(literalF s.data.toList).toArray⟩) ∧ Below w.heap.size w w' := by
  go_enter Try.func13, Try.ntmps13
  go_wp2
  go_loopw [7] (fun i wr => ∃ k : Nat, k ≤ s.size ∧ i = .int .i64 k ∧ Lib.IsBuilder 43 5 w.heap.size w.heap.size (Lib.byteCells (literalF (s.data.toList.take k))) wr ∧ Below w.heap.size w wr)
    (fun i _ => s.size - (intOf i).toNat)
  case atStart => exact ⟨0, Nat.zero_le _, rfl, built_empty, (Below.refl _ _).alloc (Nat.le_refl _) _⟩
  case round =>
    obtain ⟨k, hk, rfl, hB, hbr⟩ := hrel
    have HB := Lib.hid hB
    clear hB
    by_cases hlt : k < s.size
    · have hll := literalF_take_len s k
      have HT := Lib.hid (literalF_take s k hlt)
      cases hsp : special s[k] with
      | true =>
        have hge := spIdx_yes hsp
        have HS := Lib.hid hsp
        clear hsp
        go_wp2_with (go_at_call 17; refine (indexOf_special _ _).mono ?_; rintro e w' ⟨rfl, rfl⟩)
        refine (writeByte_any w.heap.size w.heap.size _ 92 wr HB.out (by rw [Lib.byteCells_length]; omega) hbr.size).mono ?_
        rintro e w1 ⟨rfl, hB1, hb1⟩
        have HB1 := Lib.hid hB1
        have hbr1 := hbr.trans hb1
        clear hB1 hb1
        go_wp2_with fail
        refine (writeByte_any w.heap.size w.heap.size _ _ w1 (Or.inr HB1.out) (by simp only [List.length_append, Lib.byteCells_length, List.length_cons, List.length_nil]; omega) hbr1.size).mono ?_
        rintro e w2 ⟨rfl, hB2, hb2⟩
        have HB2 := Lib.hid hB2
        have hbr2 := hbr1.trans hb2
        clear hB2 hb2 hge
        go_wp2
        go_roundw
        case rel =>
          refine ⟨k + 1, by omega, by go_num, ?_, hbr2⟩
          rw [HT.out, HS.out, if_pos rfl, Lib.byteCells_append]
          exact Or.inr (by simpa [Lib.byteCells] using HB2.out)
        case measure => simp [intOf]; omega
      | false =>
        have hlt0 := spIdx_no hsp
        have HS := Lib.hid hsp
        clear hsp
        go_wp2_with (go_at_call 17; refine (indexOf_special _ _).mono ?_; rintro e w' ⟨rfl, rfl⟩)
        refine (writeByte_any w.heap.size w.heap.size _ _ wr HB.out (by rw [Lib.byteCells_length]; omega) hbr.size).mono ?_
        rintro e w2 ⟨rfl, hB2, hb2⟩
        have HB2 := Lib.hid hB2
        have hbr2 := hbr.trans hb2
        clear hB2 hb2 hlt0
        go_wp2
        go_roundw
        case rel =>
          refine ⟨k + 1, by omega, by go_num, ?_, hbr2⟩
          rw [HT.out, HS.out, if_neg (by simp), Lib.byteCells_append]
          exact Or.inr (by simpa [Lib.byteCells] using HB2.out)
        case measure => simp [intOf]; omega
    · have hks : k = s.size := by omega
      have HE := Lib.hid (show s.data.toList.take k = s.data.toList from List.take_of_length_le (by rw [size_list]; omega))
      subst hks
      have hB := HB.out
      rw [HE.out] at hB
      have HB1 := Lib.hid hB
      clear hB
      go_wp2_with fail
      refine (Try.Builder_String_any w.heap.size w.heap.size _ wr HB1.out hbr.size).mono ?_
      rintro e w2 ⟨rfl, hb2⟩
      go_wp2
      go_ret
      exact ⟨rfl, hbr.trans hb2⟩
end Go.Proofs.Ytalehempjdjehaa
