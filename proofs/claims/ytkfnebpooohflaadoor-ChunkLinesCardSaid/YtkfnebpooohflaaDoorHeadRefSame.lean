/-
  The same texts, blanks left out: in the reference.
-/
import Derived.Test.YtkfnebpooohflaaDoorHeadLow
namespace Go.Proofs.YtkfnebpooohflaaDoor.HeadS
open Go.RowKit HeadMath

theorem size_trim (s : ByteArray) : (⟨(trimF s.data.toList).toArray⟩ : ByteArray).size ≤ s.size := by
  have h := trimF_len s.data.toList
  show (trimF s.data.toList).toArray.size ≤ s.size
  rw [List.size_toArray]
  rw [size_list] at h
  exact h

def trimR (s : List UInt8) : List UInt8 := (trimL s.reverse).reverse
theorem trimR_last {s : List UInt8} {c : UInt8} : trimR (s ++ [c]) = if blankB c = true then trimR s else s ++ [c] := by
  unfold trimR trimL
  rw [List.reverse_append]
  simp only [List.reverse_cons, List.reverse_nil, List.nil_append, List.singleton_append, List.dropWhile_cons]
  split <;> simp
theorem dropWhile_right (l : List UInt8) {c : UInt8} (h : blankB c = true) : trimR (trimL (l ++ [c])) = trimR (trimL l) := by
  induction l with
  | nil =>
    unfold trimL
    simp [h]
  | cons d l ih =>
    have e : ∀ x : List UInt8, trimL (d :: x) = if blankB d = true then trimL x else d :: x := fun x => by unfold trimL; rw [List.dropWhile_cons]
    rw [List.cons_append, e, e]
    split
    · exact ih
    · have := trimR_last (s := d :: l) (c := c)
      rw [if_pos h] at this
      exact this
theorem trimR_L (s : List UInt8) : trimR (trimL s) = trimF s := by
  have h0 : ∀ l : List UInt8, (trimL l.reverse).reverse = trimR l := fun _ => rfl
  suffices ∀ n, ∀ s : List UInt8, s.length = n → trimR (trimL s) = trimL (trimR s) by
    have h := this _ s rfl
    unfold trimF
    rw [h]
    unfold trimR
    rfl
  intro n
  induction n with
  | zero => intro s hs; rw [List.length_eq_zero_iff.1 hs]; rfl
  | succ n ih =>
    intro s hs
    have hne : s ≠ [] := by intro e; subst e; simp at hs
    obtain ⟨l, c, rfl⟩ : ∃ l c, s = l ++ [c] := ⟨s.dropLast, s.getLast hne, (List.dropLast_concat_getLast hne).symm⟩
    by_cases h : blankB c = true
    · rw [dropWhile_right l h, trimR_last, if_pos h]
      exact ih l (by simpa using hs)
    · rw [trimR_last, if_neg h]
      unfold trimR
      have : (trimL (l ++ [c])).getLast? = some c := by
        obtain ⟨u, hu, hb⟩ := trimL_suffix (l ++ [c])
        rcases List.eq_nil_or_concat (trimL (l ++ [c])) with h1 | ⟨l', d, h1⟩
        · rw [h1, List.append_nil] at hu
          exact absurd (hb c (by rw [← hu]; simp)) h
        · rw [h1]
          rw [h1] at hu
          have := congrArg List.getLast? hu
          simp at this
          simp [this]
      have h2 : trimL (trimL (l ++ [c])).reverse = (trimL (l ++ [c])).reverse := trimL_id (fun d hd => by
        rw [List.head?_reverse, this] at hd
        cases hd
        simpa using h)
      rw [h2, List.reverse_reverse]

theorem trimR_id {s : List UInt8} (h : ∀ c, s.getLast? = some c → blankB c = false) : trimR s = s := by
  unfold trimR
  rw [trimL_id (fun c hc => h c (by rwa [List.head?_reverse] at hc)), List.reverse_reverse]
theorem trimL_step {s : ByteArray} (h : 0 < s.size) (hb : blankB s[0] = true) : trimL (s.data.toList.drop 1) = trimL s.data.toList := by
  have h1 := head_at h
  cases hs : s.data.toList with
  | nil => rw [hs] at h1; cases h1
  | cons c l =>
    rw [hs] at h1
    simp at h1
    rw [← h1] at hb
    show trimL l = trimL (c :: l)
    unfold trimL
    rw [List.dropWhile_cons, if_pos hb]
theorem trimL_stop {s : ByteArray} (h : 0 < s.size) (hb : blankB s[0] = false) : trimL s.data.toList = s.data.toList :=
  trimL_id (fun c hc => by rw [head_at h] at hc; cases hc; exact hb)
theorem trimR_step {s : ByteArray} (h : 0 < s.size) (hb : blankB (s[s.size - 1]'(by omega)) = true) : trimR (s.data.toList.take (s.size - 1)) = trimR s.data.toList := by
  have h1 := last_at h
  have h2 : s.data.toList = s.data.toList.take (s.size - 1) ++ [s[s.size - 1]'(by omega)] := by
    have h' : s.size - 1 < s.data.toList.length := by rw [size_list]; omega
    have := List.take_succ_eq_append_getElem h'
    rw [show s.size - 1 + 1 = s.size from by omega, List.take_of_length_le (by rw [size_list]; exact Nat.le_refl _)] at this
    exact this
  have h3 := trimR_last (s := s.data.toList.take (s.size - 1)) (c := s[s.size - 1]'(by omega))
  rw [if_pos hb, ← h2] at h3
  exact h3.symm
theorem trimR_stop {s : ByteArray} (h : 0 < s.size) (hb : blankB (s[s.size - 1]'(by omega)) = false) : trimR s.data.toList = s.data.toList :=
  trimR_id (fun c hc => by rw [last_at h] at hc; cases hc; exact hb)
theorem list_nil {s : ByteArray} (h : s.size = 0) : s.data.toList = [] := List.eq_nil_of_length_eq_zero (by rw [size_list]; exact h)

def strSize (v : Value) : Nat := match v with | .string t => t.size | _ => 0
theorem extract_size (s : ByteArray) (a b : Nat) (_h : a ≤ b) (hb : b ≤ s.size) : (s.extract a b).size = b - a := by
  rw [ByteArray.size_extract, Nat.min_eq_left hb]
theorem data_as (s : ByteArray) {l : List UInt8} (h : s.data.toList = l) : s = ⟨l.toArray⟩ := by subst h; rfl

set_option maxHeartbeats 2000000 in
theorem refTrim_any (s : ByteArray) (w : World) (hs : s.size ≤ 140737488351232) : Calls Tryd.prog 39 #[.string s] w fun e w' => e = .returned (.string ⟨(trimF s.data.toList).toArray⟩) ∧ w = w' := by
  have HT := Lib.hid (trimR_L s.data.toList)
  go_enter Tryd.func39, Tryd.ntmps39
  go_wp2
  go_loop [0] (fun v => ∃ t : ByteArray, v = .string t ∧ t.size ≤ s.size ∧ trimL t.data.toList = trimL s.data.toList) strSize
  case atStart => exact ⟨s, rfl, Nat.le_refl _, rfl⟩
  case round =>
    obtain ⟨t, rfl, hts, hrel⟩ := hrel
    have HR := Lib.hid hrel
    clear hrel
    by_cases hz : t.size = 0
    · have HE := Lib.hid (show trimL t.data.toList = t.data.toList from by rw [list_nil hz]; rfl)
      go_wp2
      go_loop [0] (fun v => ∃ t : ByteArray, v = .string t ∧ t.size ≤ s.size ∧ trimR t.data.toList = trimF s.data.toList) strSize
      case atStart => exact ⟨t, rfl, hts, by rw [← HT.out, ← HR.out, HE.out]⟩
      case round =>
        obtain ⟨t, rfl, hts, hrel⟩ := hrel
        clear HR HE hz
        have HR := Lib.hid hrel
        clear hrel
        by_cases hz : t.size = 0
        · have HE := Lib.hid (list_nil hz)
          have HF := Lib.hid (data_as t (l := trimF s.data.toList) (by rw [← HR.out, HE.out]; rfl))
          go_wp2
          go_ret
          exact ⟨congrArg (fun x => Ending.returned (Value.string x)) HF.out, rfl⟩
        · have hpos : 0 < t.size := by omega
          have hlast : t.size - 1 < t.size := by omega
          cases hb : blankB (t[t.size - 1]'hlast) with
          | true =>
            have HS := Lib.hid (trimR_step hpos hb)
            have HX := Lib.hid (Lib.extract_data t 0 (t.size - 1))
            have HB := Lib.hid hb
            have hz1 := Lib.hid (extract_size t 0 (t.size - 1) (Nat.zero_le _) (Nat.sub_le _ _))
            clear hb
            go_wp2_with fail
            refine (blank_any _ _).mono ?_
            rintro e w1 ⟨rfl, rfl⟩
            rw [HB.out]
            go_wp2
            go_round
            case rel => exact ⟨_, rfl, by rw [hz1.out]; omega, by rw [HX.out, List.drop_zero, Nat.sub_zero, HS.out, HR.out]⟩
            case measure => show (t.extract 0 (t.size - 1)).size < t.size; rw [hz1.out]; omega
          | false =>
            have HB := Lib.hid hb
            have HS := Lib.hid (trimR_stop hpos hb)
            have HF := Lib.hid (data_as t (l := trimF s.data.toList) (by rw [← HR.out, HS.out]))
            clear hb
            go_wp2_with fail
            refine (blank_any _ _).mono ?_
            rintro e w1 ⟨rfl, rfl⟩
            rw [HB.out]
            go_wp2
            go_ret
            exact ⟨congrArg (fun x => Ending.returned (Value.string x)) HF.out, rfl⟩
    · have hpos : 0 < t.size := by omega
      cases hb : blankB t[0] with
      | true =>
        have HS := Lib.hid (trimL_step hpos hb)
        have HX := Lib.hid (Lib.extract_to_end t 1)
        have HB := Lib.hid hb
        have hz1 := Lib.hid (extract_size t 1 t.size (by omega) (Nat.le_refl _))
        clear hb
        go_wp2_with fail
        refine (blank_any _ _).mono ?_
        rintro e w1 ⟨rfl, rfl⟩
        rw [HB.out]
        go_wp2
        go_round
        case rel => exact ⟨_, rfl, by rw [hz1.out]; omega, by rw [HX.out, HS.out, HR.out]⟩
        case measure => show (t.extract 1 t.size).size < t.size; rw [hz1.out]; omega
      | false =>
        have HB := Lib.hid hb
        have HE := Lib.hid (trimL_stop hpos hb)
        clear hb
        go_wp2_with fail
        refine (blank_any _ _).mono ?_
        rintro e w1 ⟨rfl, rfl⟩
        rw [HB.out]
        go_wp2
        go_loop [0] (fun v => ∃ t : ByteArray, v = .string t ∧ t.size ≤ s.size ∧ trimR t.data.toList = trimF s.data.toList) strSize
        case atStart => exact ⟨t, rfl, hts, by rw [← HT.out, ← HR.out, HE.out]⟩
        case round =>
          obtain ⟨t, rfl, hts, hrel⟩ := hrel
          clear HR HE HB hz
          have HR := Lib.hid hrel
          clear hrel
          by_cases hz : t.size = 0
          · have HE := Lib.hid (list_nil hz)
            have HF := Lib.hid (data_as t (l := trimF s.data.toList) (by rw [← HR.out, HE.out]; rfl))
            go_wp2
            go_ret
            exact ⟨congrArg (fun x => Ending.returned (Value.string x)) HF.out, rfl⟩
          · have hpos : 0 < t.size := by omega
            have hlast : t.size - 1 < t.size := by omega
            cases hb : blankB (t[t.size - 1]'hlast) with
            | true =>
              have HS := Lib.hid (trimR_step hpos hb)
              have HX := Lib.hid (Lib.extract_data t 0 (t.size - 1))
              have HB := Lib.hid hb
              have hz1 := Lib.hid (extract_size t 0 (t.size - 1) (Nat.zero_le _) (Nat.sub_le _ _))
              clear hb
              go_wp2_with fail
              refine (blank_any _ _).mono ?_
              rintro e w1 ⟨rfl, rfl⟩
              rw [HB.out]
              go_wp2
              go_round
              case rel => exact ⟨_, rfl, by rw [hz1.out]; omega, by rw [HX.out, List.drop_zero, Nat.sub_zero, HS.out, HR.out]⟩
              case measure => show (t.extract 0 (t.size - 1)).size < t.size; rw [hz1.out]; omega
            | false =>
              have HB := Lib.hid hb
              have HS := Lib.hid (trimR_stop hpos hb)
              have HF := Lib.hid (data_as t (l := trimF s.data.toList) (by rw [← HR.out, HS.out]))
              clear hb
              go_wp2_with fail
              refine (blank_any _ _).mono ?_
              rintro e w1 ⟨rfl, rfl⟩
              rw [HB.out]
              go_wp2
              go_ret
              exact ⟨congrArg (fun x => Ending.returned (Value.string x)) HF.out, rfl⟩
end Go.Proofs.YtkfnebpooohflaaDoor.HeadS