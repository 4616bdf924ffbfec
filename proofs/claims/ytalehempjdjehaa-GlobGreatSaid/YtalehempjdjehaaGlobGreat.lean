/-
  Great patterns and texts are matched as the reference says: ambrylaw24.GlobGreat returns true, whatever it is given.
-/
import Derived.Test.YtalehempjdjehaaGlobMatches
namespace Go.Proofs.Ytalehempjdjehaa
open Go.RowKit GlobMath

theorem lit_u8 {a : Int} (h : (Lit.int .u8 a).wf = true) : 0 ≤ a ∧ a ≤ 255 := by
  simp only [Lit.wf, IntKind.min, IntKind.max, IntKind.signed, IntKind.bits, Bool.and_eq_true] at h
  simp at h
  omega
theorem size_lit (l : Array UInt8) : ({ data := l } : ByteArray).size = l.size := rfl

theorem size_b (pb c : ByteArray) (h : pb.size ≤ 180) (hc : c.size ≤ 1) : (pb ++ c).size ≤ 1000000000000 := by
  rw [ByteArray.size_append]; omega

set_option maxHeartbeats 4000000 in
theorem great_any (n m k : Int) (w : World) (hn : (Lit.int .u8 n).wf = true) (hm : (Lit.int .u8 m).wf = true) (hk : (Lit.int .u8 k).wf = true) :
    Calls Try.prog 6 #[.int .u8 n, .int .u8 m, .int .u8 k] w fun e w' => e = .returned (.bool true) ∧ Below w.heap.size w w' := by
  obtain ⟨n0, n1⟩ := lit_u8 hn
  obtain ⟨m0, m1⟩ := lit_u8 hm
  obtain ⟨k0, k1⟩ := lit_u8 hk
  clear hn hm hk
  go_enter Try.func6, Try.ntmps6
  go_wp2_with (go_at_call 8; refine (known_any _).mono ?_; rintro e w1 ⟨rfl, hb1⟩)
  go_loopw [7, 9] (fun p i wr => ∃ (j : Nat) (pb : ByteArray), j ≤ 60 ∧ i = .int .i64 j ∧ p = .string pb ∧ pb.size ≤ 3 * j ∧ Below w.heap.size w wr)
    (fun _ i _ => 60 - (intOf i).toNat)
  case atStart => exact ⟨0, ByteArray.empty, by omega, rfl, rfl, by decide, hb1⟩
  case round =>
    obtain ⟨j, pb, hj, rfl, rfl, hpb, hbr⟩ := hrel
    clear hb1
    have hos := hbr.size
    by_cases hlt : (j : Int) < n % 60
    · rcases (show k % 4 = 0 ∨ k % 4 = 1 ∨ k % 4 = 2 ∨ k % 4 = 3 from by omega) with h | h | h | h
      all_goals
        go_wp2
        go_roundw
        case rel => exact ⟨j + 1, _, by omega, by go_num, rfl, by rw [ByteArray.size_append]; simp only [size_lit]; simp; omega, hbr.alloc hos _⟩
        case measure => simp [intOf]; omega
    · go_wp2
      obtain ⟨wo, rfl⟩ : ∃ wo : World, wo = wr := ⟨_, rfl⟩
      go_loopw [8, 10] (fun s i wr => ∃ (q : Nat) (sb : ByteArray), q ≤ 255 ∧ i = .int .i64 q ∧ s = .string sb ∧ sb.size ≤ 2 * q ∧ Below w.heap.size w wr)
        (fun _ i _ => 255 - (intOf i).toNat)
      case atStart => exact ⟨0, ByteArray.empty, by omega, rfl, rfl, by decide, hbr⟩
      case round =>
        obtain ⟨q, sb, hq, rfl, rfl, hsb, hbr2⟩ := hrel
        clear hbr
        have hos2 := hbr2.size
        by_cases hlt2 : (q : Int) < m
        · rcases (show k / 4 % 3 = 0 ∨ k / 4 % 3 = 1 ∨ k / 4 % 3 = 2 from by omega) with h | h | h
          all_goals
            go_wp2
            go_roundw
            case rel => exact ⟨q + 1, _, by omega, by go_num, rfl, by rw [ByteArray.size_append]; simp only [size_lit]; simp; omega, hbr2.alloc hos2 _⟩
            case measure => simp [intOf]; omega
        · go_wp2_with fail
          refine (match_any pb sb _ (by omega) (by omega)).mono ?_
          rintro e w2 ⟨rfl, hb2⟩
          replace hb2 := hbr2.trans (hb2.mono hbr2.size)
          go_wp2_with fail
          refine (refMatch_any pb sb _ (by omega) (by omega)).mono ?_
          rintro e w3 ⟨rfl, hb3⟩
          replace hb3 := hb2.trans (hb3.mono hb2.size)
          go_wp2_with fail
          refine (match_any _ sb _ (size_b pb _ (by omega) (by decide)) (by omega)).mono ?_
          rintro e w4 ⟨rfl, hb4⟩
          replace hb4 := hb3.trans (hb4.mono hb3.size)
          go_wp2_with fail
          refine (refMatch_any _ sb _ (size_b pb _ (by omega) (by decide)) (by omega)).mono ?_
          rintro e w5 ⟨rfl, hb5⟩
          replace hb5 := hb4.trans (hb5.mono hb4.size)
          go_wp2
          go_ret
          exact ⟨by simp, hb5⟩
end Go.Proofs.Ytalehempjdjehaa
