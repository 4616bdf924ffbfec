/-
  Where a part of a list ends, in the program.
-/
import Derived.Test.YtckhjhgddnjfpaaDoorHeadAll
namespace Go.Proofs.YtckhjhgddnjfpaaDoor
open Go.RowKit HeadMath

def endF : Bool → Bool → List UInt8 → Nat
  | _, _, [] => 0
  | q, true, _ :: r => 1 + endF q false r
  | true, false, c :: r => if c = 92 then 1 + endF true true r else if c = 34 then 1 + endF false false r else 1 + endF true false r
  | false, false, c :: r => if c = 34 then 1 + endF true false r else if c = 44 then 0 else 1 + endF false false r
theorem endF_le : ∀ (q t : Bool) (l : List UInt8), endF q t l ≤ l.length
  | _, _, [] => by simp [endF]
  | q, true, _ :: r => by have := endF_le q false r; simp [endF]; omega
  | true, false, c :: r => by
    have h1 := endF_le true true r
    have h2 := endF_le false false r
    have h3 := endF_le true false r
    simp only [endF, List.length_cons]
    split
    · omega
    · split <;> omega
  | false, false, c :: r => by
    have h1 := endF_le true false r
    have h2 := endF_le false false r
    simp only [endF, List.length_cons]
    split
    · omega
    · split <;> omega
theorem drop_at (s : ByteArray) (k : Nat) (h : k < s.size) : s.data.toList.drop k = s[k] :: s.data.toList.drop (k + 1) := by
  have h' : k < s.data.toList.length := by rw [size_list]; exact h
  rw [List.drop_eq_getElem_cons h']; rfl

set_option maxHeartbeats 4000000 in
theorem partEnd_any (s : ByteArray) (w : World) (hs : s.size ≤ 140737488351232) :
    Calls Tryd.prog 50 #[.string s] w fun e w' => e = .returned (.int .i64 (endF false false s.data.toList)) ∧ w = w' := by
  go_enter Tryd.func50, Tryd.ntmps50
  go_wp2
  go_loopw [3, 4, 9] (fun Q T i wr => ∃ (k : Nat) (q t : Bool), k ≤ s.size ∧ i = .int .i64 k ∧ Q = .bool q ∧ T = .bool t ∧ Hid (k + endF q t (s.data.toList.drop k) = endF false false s.data.toList) ∧ w = wr) (fun _ _ i _ => s.size - (intOf i).toNat)
  case atStart => exact ⟨0, false, false, Nat.zero_le _, rfl, rfl, rfl, Lib.hid (by simp), rfl⟩
  case round =>
    obtain ⟨k, q, t, hk, rfl, rfl, rfl, HA, rfl⟩ := hrel
    by_cases hlt : k < s.size
    · have e92 := u8_beq_lit s[k] 92 (by omega)
      have e34 := u8_beq_lit s[k] 34 (by omega)
      have e44 := u8_beq_lit s[k] 44 (by omega)
      cases t with
      | true =>
        have HN := Lib.hid (show (k + 1) + endF q false (s.data.toList.drop (k + 1)) = endF false false s.data.toList from by
          have h := HA.out
          rw [drop_at s k hlt] at h
          simp only [endF] at h
          omega)
        clear HA
        clear e92 e34 e44
        go_wp2
        go_roundw
        case rel => exact ⟨k + 1, _, _, by omega, by go_num, rfl, rfl, HN, trivial⟩
        case measure => simp [intOf]; omega
      | false =>
        cases q with
        | true =>
          by_cases h92 : s[k] = 92
          · have q92 : ((s[k].toNat : Int) == 92) = true := by rw [h92]; rfl
            have HN := Lib.hid (show (k + 1) + endF true true (s.data.toList.drop (k + 1)) = endF false false s.data.toList from by
              have h := HA.out
              rw [drop_at s k hlt] at h
              simp only [endF, h92, if_true] at h
              omega)
            clear HA
            clear e92 e34 e44 h92
            go_wp2
            go_roundw
            case rel => exact ⟨k + 1, _, _, by omega, by go_num, rfl, rfl, HN, trivial⟩
            case measure => simp [intOf]; omega
          · have q92 : ((s[k].toNat : Int) == 92) = false := e92.trans (by simpa using h92)
            by_cases h34 : s[k] = 34
            · have q34 : ((s[k].toNat : Int) == 34) = true := by rw [h34]; rfl
              have HN := Lib.hid (show (k + 1) + endF false false (s.data.toList.drop (k + 1)) = endF false false s.data.toList from by
                have h := HA.out
                rw [drop_at s k hlt] at h
                simp only [endF, if_neg h92, if_pos h34] at h
                omega)
              clear HA
              clear e92 e34 e44 h34 h92
              go_wp2
              go_roundw
              case rel => exact ⟨k + 1, _, _, by omega, by go_num, rfl, rfl, HN, trivial⟩
              case measure => simp [intOf]; omega
            · have q34 : ((s[k].toNat : Int) == 34) = false := e34.trans (by simpa using h34)
              by_cases h44 : s[k] = 44
              · have q44 : ((s[k].toNat : Int) == 44) = true := by rw [h44]; rfl
                have HN := Lib.hid (show (k + 1) + endF true false (s.data.toList.drop (k + 1)) = endF false false s.data.toList from by
                  have h := HA.out
                  rw [drop_at s k hlt] at h
                  simp only [endF, if_neg h92, if_neg h34] at h
                  omega)
                clear HA
                clear e92 e34 e44 h34 h92 h44
                go_wp2
                go_roundw
                case rel => exact ⟨k + 1, _, _, by omega, by go_num, rfl, rfl, HN, trivial⟩
                case measure => simp [intOf]; omega
              · have q44 : ((s[k].toNat : Int) == 44) = false := e44.trans (by simpa using h44)
                have HN := Lib.hid (show (k + 1) + endF true false (s.data.toList.drop (k + 1)) = endF false false s.data.toList from by
                  have h := HA.out
                  rw [drop_at s k hlt] at h
                  simp only [endF, if_neg h92, if_neg h34] at h
                  omega)
                clear HA
                clear e92 e34 e44 h34 h92 h44
                go_wp2
                go_roundw
                case rel => exact ⟨k + 1, _, _, by omega, by go_num, rfl, rfl, HN, trivial⟩
                case measure => simp [intOf]; omega
        | false =>
          by_cases h34 : s[k] = 34
          · have q34 : ((s[k].toNat : Int) == 34) = true := by rw [h34]; rfl
            have HN := Lib.hid (show (k + 1) + endF true false (s.data.toList.drop (k + 1)) = endF false false s.data.toList from by
              have h := HA.out
              rw [drop_at s k hlt] at h
              simp only [endF, if_pos h34] at h
              omega)
            clear HA
            clear e92 e34 e44 h34
            go_wp2
            go_roundw
            case rel => exact ⟨k + 1, _, _, by omega, by go_num, rfl, rfl, HN, trivial⟩
            case measure => simp [intOf]; omega
          · have q34 : ((s[k].toNat : Int) == 34) = false := e34.trans (by simpa using h34)
            by_cases h44 : s[k] = 44
            · have q44 : ((s[k].toNat : Int) == 44) = true := by rw [h44]; rfl
              have HN := Lib.hid (show k = endF false false s.data.toList from by
                have h := HA.out
                rw [drop_at s k hlt] at h
                simp only [endF, if_neg h34, if_pos h44] at h
                omega)
              clear HA e92 e34 e44 h34 h44
              go_wp2
              go_ret
              exact ⟨ret_int (by rw [← HN.out]), rfl⟩
            · have q44 : ((s[k].toNat : Int) == 44) = false := e44.trans (by simpa using h44)
              have HN := Lib.hid (show (k + 1) + endF false false (s.data.toList.drop (k + 1)) = endF false false s.data.toList from by
                have h := HA.out
                rw [drop_at s k hlt] at h
                simp only [endF, if_neg h34, if_neg h44] at h
                omega)
              clear HA
              clear e92 e34 e44 h34 h44
              go_wp2
              go_roundw
              case rel => exact ⟨k + 1, _, _, by omega, by go_num, rfl, rfl, HN, trivial⟩
              case measure => simp [intOf]; omega
    · have HN := Lib.hid (show s.size = endF false false s.data.toList from by
        have h := HA.out
        have hks : k = s.size := by omega
        rw [hks, List.drop_of_length_le (by rw [size_list]; exact Nat.le_refl _)] at h
        cases q <;> cases t <;> simp only [endF] at h <;> omega)
      go_wp2
      go_ret
      exact ⟨ret_int (by rw [← HN.out]), rfl⟩
end Go.Proofs.YtckhjhgddnjfpaaDoor
