/-
  The reference's Valid and Literal answer what the mathematics says.
-/
import Derived.Test.YtalehempjdjehaaGlobKnown
namespace Go.Proofs.Ytalehempjdjehaa
open Go.RowKit GlobMath

theorem append_list' (a b : ByteArray) : (a ++ b).data.toList = a.data.toList ++ b.data.toList := by
  rw [ByteArray.data_append]; simp
theorem drop_at (s : ByteArray) (k : Nat) (h : k < s.size) : s.data.toList.drop k = s[k] :: s.data.toList.drop (k + 1) := by
  have h' : k < s.data.toList.length := by rw [size_list]; exact h
  rw [List.drop_eq_getElem_cons h']
  rfl
theorem drop_end (s : ByteArray) : s.data.toList.drop s.size = [] := List.drop_eq_nil_of_le (by rw [size_list]; exact Nat.le_refl _)

theorem valid_of_ok (p : ByteArray) (h : p.size ≤ 200) : validF p.data.toList = okB p.data.toList := by
  unfold validF
  rw [parts_ok _ _ (Nat.le_refl _), size_list]; simp [h]

def vcode (b : Bool) : Int := if b = true then 0 else 120

set_option maxHeartbeats 400000 in
theorem refValid_long (p : ByteArray) (w : World) (h : (200 : Int) < p.size) :
    Calls Try.prog 12 #[.string p] w fun e w' => e = .returned (.int .i64 120) ∧ w = w' := by
  go_enter Try.func12, Try.ntmps12
  go_wp2
  go_ret
  exact ⟨rfl, rfl⟩

set_option maxHeartbeats 1000000 in
theorem refValid_short (p : ByteArray) (w : World) (h : (p.size : Int) ≤ 200) :
    Calls Try.prog 12 #[.string p] w fun e w' => e = .returned (.int .i64 (vcode (okB p.data.toList))) ∧ w = w' := by
  go_enter Try.func12, Try.ntmps12
  go_wp2
  go_loop [3] (fun i => ∃ k : Nat, k ≤ p.size ∧ i = .int .i64 k ∧ okB p.data.toList = okB (p.data.toList.drop k)) (fun i => p.size - (intOf i).toNat)
  case atStart => exact ⟨0, Nat.zero_le _, rfl, rfl⟩
  case round =>
    obtain ⟨k, hk, rfl, hok⟩ := hrel
    have HO := Lib.hid hok
    clear hok
    by_cases hlt : k < p.size
    · have HD := Lib.hid (drop_at p k hlt)
      by_cases h92 : p[k] = 92
      · have q : ((p[k].toNat : Int) == 92) = true := by rw [h92]; rfl
        have H92 := Lib.hid h92
        clear h92
        by_cases hend : k + 1 = p.size
        · have q2 : (((k : Int) + 1) == (p.size : Int)) = true := by simp; omega
          have HB := Lib.hid (show okB p.data.toList = false from by
            rw [HO.out, HD.out, H92.out, hend, drop_end]; rfl)
          clear hend
          go_wp2
          go_ret
          exact ⟨by rw [HB.out]; rfl, rfl⟩
        · have q2 : (((k : Int) + 1) == (p.size : Int)) = false := by simp; omega
          have hlt2 : k + 1 < p.size := by omega
          have HD2 := Lib.hid (drop_at p (k + 1) hlt2)
          clear hend
          go_wp2
          go_round
          case rel => exact ⟨k + 1 + 1, by omega, by go_num, by rw [HO.out, HD.out, HD2.out, H92.out, okB_esc]⟩
          case measure => simp [intOf]; omega
      · have q : ((p[k].toNat : Int) == 92) = false := (u8_beq_lit _ 92 (by omega)).trans (by simpa using h92)
        have H92 := Lib.hid h92
        clear h92
        go_wp2
        go_round
        case rel => exact ⟨k + 1, by omega, by go_num, by rw [HO.out, HD.out, okB_cons _ _ H92.out]⟩
        case measure => simp [intOf]; omega
    · have hkp : k = p.size := by omega
      have HB := Lib.hid (show okB p.data.toList = true from by rw [HO.out, hkp, drop_end]; rfl)
      subst hkp
      go_wp2
      go_ret
      exact ⟨by rw [HB.out]; rfl, rfl⟩

theorem refValid_any (p : ByteArray) (w : World) (_hp : p.size ≤ 1000000000000) :
    Calls Try.prog 12 #[.string p] w fun e w' => e = .returned (.int .i64 (vcode (validF p.data.toList))) ∧ w = w' := by
  by_cases h : p.size ≤ 200
  · rw [valid_of_ok p h]; exact refValid_short p w (by omega)
  · have : validF p.data.toList = false := by unfold validF; rw [size_list]; simp; omega
    rw [this]; exact refValid_long p w (by omega)

set_option maxHeartbeats 1000000 in
theorem refLiteral_any (s : ByteArray) (w : World) (hs : s.size ≤ 1000000000000) :
    Calls Try.prog 14 #[.string s] w fun e w' => e = .returned (.string ⟨(literalF s.data.toList).toArray⟩) ∧ w = w' := by
  go_enter Try.func14, Try.ntmps14
  go_wp2
  go_loop [3, 4] (fun o i => ∃ (k : Nat) (ob : ByteArray), k ≤ s.size ∧ i = .int .i64 k ∧ o = .string ob ∧ ob.data.toList = literalF (s.data.toList.take k)) (fun _ i => s.size - (intOf i).toNat)
  case atStart => exact ⟨0, ByteArray.empty, Nat.zero_le _, rfl, rfl, rfl⟩
  case round =>
    obtain ⟨k, ob, hk, rfl, rfl, hob⟩ := hrel
    have HOB := Lib.hid hob
    have hol : ob.size ≤ 2 * s.size := by rw [← size_list, hob]; exact literalF_take_len s k
    clear hob
    by_cases hlt : k < s.size
    · have HT := Lib.hid (literalF_take s k hlt)
      have HE := Lib.hid (show (s.extract k (k + 1)).data.toList = [s[k]] from by rw [Lib.extract_data, drop_at s k hlt]; simp)
      by_cases h42 : s[k] = 42
      · have HS := Lib.hid (show special s[k] = true from by rw [h42]; rfl)
        have q42 : ((s[k].toNat : Int) == 42) = true := (u8_beq_lit _ 42 (by omega)).trans (by first | exact beq_iff_eq.2 (by assumption) | exact beq_eq_false_iff_ne.2 (by assumption))
        clear h42
        go_wp2
        go_round
        case rel =>
          refine ⟨k + 1, _, by omega, by go_num, rfl, ?_⟩
          rw [append_list', append_list', HOB.out, HT.out, HE.out, HS.out, if_pos rfl]; simp
        case measure => simp [intOf]; omega
      · have q42 : ((s[k].toNat : Int) == 42) = false := (u8_beq_lit _ 42 (by omega)).trans (by first | exact beq_iff_eq.2 (by assumption) | exact beq_eq_false_iff_ne.2 (by assumption))
        by_cases h63 : s[k] = 63
        · have HS := Lib.hid (show special s[k] = true from by rw [h63]; rfl)
          have q63 : ((s[k].toNat : Int) == 63) = true := (u8_beq_lit _ 63 (by omega)).trans (by first | exact beq_iff_eq.2 (by assumption) | exact beq_eq_false_iff_ne.2 (by assumption))
          clear h42 h63
          go_wp2
          go_round
          case rel =>
            refine ⟨k + 1, _, by omega, by go_num, rfl, ?_⟩
            rw [append_list', append_list', HOB.out, HT.out, HE.out, HS.out, if_pos rfl]; simp
          case measure => simp [intOf]; omega
        · have q63 : ((s[k].toNat : Int) == 63) = false := (u8_beq_lit _ 63 (by omega)).trans (by first | exact beq_iff_eq.2 (by assumption) | exact beq_eq_false_iff_ne.2 (by assumption))
          by_cases h92 : s[k] = 92
          · have HS := Lib.hid (show special s[k] = true from by rw [h92]; rfl)
            have q92 : ((s[k].toNat : Int) == 92) = true := (u8_beq_lit _ 92 (by omega)).trans (by first | exact beq_iff_eq.2 (by assumption) | exact beq_eq_false_iff_ne.2 (by assumption))
            clear h42 h63 h92
            go_wp2
            go_round
            case rel =>
              refine ⟨k + 1, _, by omega, by go_num, rfl, ?_⟩
              rw [append_list', append_list', HOB.out, HT.out, HE.out, HS.out, if_pos rfl]; simp
            case measure => simp [intOf]; omega
          · have q92 : ((s[k].toNat : Int) == 92) = false := (u8_beq_lit _ 92 (by omega)).trans (by first | exact beq_iff_eq.2 (by assumption) | exact beq_eq_false_iff_ne.2 (by assumption))
            have HS := Lib.hid (show special s[k] = false from by simp [special, h42, h63, h92])
            clear h42 h63 h92
            go_wp2
            go_round
            case rel =>
              refine ⟨k + 1, _, by omega, by go_num, rfl, ?_⟩
              rw [append_list', HOB.out, HT.out, HE.out, HS.out, if_neg (by simp)]
            case measure => simp [intOf]; omega
    · have hks : k = s.size := by omega
      have HF := Lib.hid (show s.data.toList.take k = s.data.toList from List.take_of_length_le (by rw [size_list]; omega))
      subst hks
      go_wp2
      go_ret
      refine ⟨?_, rfl⟩
      have h := HOB.out
      rw [HF.out] at h
      rw [← h]; rfl
end Go.Proofs.Ytalehempjdjehaa
