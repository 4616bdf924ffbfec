/-
  What the reference makes of the parts of a date.
-/
import Derived.Test.YtfnpncmdeimcbaaDoorDateRefTwo
namespace Go.Proofs.YtfnpncmdeimcbaaDoor
open Go.RowKit DateMath

set_option maxRecDepth 100000 in
set_option maxHeartbeats 4000000 in
theorem refIndex_any (L : List Bs) (s : ByteArray) (g n c : Nat) (w : World) (hn : n = L.length) (hl : L.length ≤ 100) (hc : ∀ k (h : k < L.length), w.cell? ⟨g, k, none⟩ = some (.string (arrD L[k]))) :
    Calls Tryd.prog 28 #[.slice (some ⟨g, 0, none⟩) n c, .string s] w fun e w' => e = .returned (.int .i64 (idxF L s.data.toList)) ∧ w' = w := by
  have HC := Lib.hid hc
  have HN := Lib.hid hn
  have hn2 : n ≤ 100 := by omega
  have hst : s.toList = s.data.toList := Lib.toList_data s
  have HST := Lib.hid hst
  clear hc hn hl hst
  go_enter Tryd.func28, Tryd.ntmps28
  go_wp2
  go_loop [5] (fun i => ∃ k : Nat, k ≤ n ∧ i = .int .i64 k ∧ Hid (idxF L s.data.toList = if idxF (L.drop k) s.data.toList = -1 then -1 else idxF (L.drop k) s.data.toList + k)) (fun i => n - (intOf i).toNat)
  case atStart => exact ⟨0, Nat.zero_le _, rfl, Lib.hid (by rw [List.drop_zero]; split <;> simp_all)⟩
  case round =>
    obtain ⟨k, hk, rfl, HK⟩ := hrel
    by_cases hlt : k < n
    · have hlL : k < L.length := by have := HN.out; omega
      have x0 := HC.out k hlL
      have hol : (arrD L[k]).toList = L[k] := by rw [Lib.toList_data]; unfold arrD; simp
      have hdr : L.drop k = L[k] :: L.drop (k + 1) := List.drop_eq_getElem_cons hlL
      have hidx : idxF (L.drop k) s.data.toList = if L[k] = s.data.toList then 0 else if idxF (L.drop (k + 1)) s.data.toList = -1 then -1 else idxF (L.drop (k + 1)) s.data.toList + 1 := by rw [hdr]; rfl
      obtain ⟨O, hO⟩ : ∃ O, arrD L[k] = O := ⟨_, rfl⟩
      rw [hO] at x0 hol
      have i1 : (k : Int) < (n : Int) := by omega
      by_cases heq : L[k] = s.data.toList
      · have teq : (O.toList == s.toList) = true := by rw [HST.out, hol, heq]; exact beq_self_eq_true _
        have HE : Hid (idxF L s.data.toList = k) := Lib.hid (by rw [HK.out, hidx, if_pos heq]; simp)
        clear hol hO heq hdr hidx
        go_wp2
        go_ret
        exact ⟨by rw [HE.out]; rfl, rfl⟩
      · have teq : (O.toList == s.toList) = false := by rw [HST.out, hol]; simpa using heq
        have HE : Hid (idxF L s.data.toList = if idxF (L.drop (k + 1)) s.data.toList = -1 then -1 else idxF (L.drop (k + 1)) s.data.toList + ((k + 1 : Nat) : Int)) := Lib.hid (by
          rw [HK.out, hidx, if_neg heq]
          have := idx_ge (L.drop (k + 1)) s.data.toList
          by_cases h : idxF (L.drop (k + 1)) s.data.toList = -1
          · rw [if_pos h, if_pos h, if_pos rfl]
          · rw [if_neg h, if_neg h, if_neg (by omega)]; omega)
        clear hol hO heq hdr hidx
        go_wp2
        go_round
        case rel => exact ⟨k + 1, by omega, by go_num, HE⟩
        case measure => simp [intOf]; omega
    · obtain rfl : k = n := by omega
      have HE : Hid (idxF L s.data.toList = -1) := Lib.hid (by
        rw [HK.out, List.drop_eq_nil_of_le (by have := HN.out; omega)]
        rfl)
      go_wp2
      go_ret
      exact ⟨by rw [HE.out]; rfl, rfl⟩
theorem clock_ret (a b d : Nat) (x : Bool) : Ending.returned (.tuple #[.int .i64 ((a : Int) * 3600 + (b : Int) * 60 + (d : Int)), .bool x]) = .returned (.tuple #[.int .i64 ((a * 3600 + b * 60 + d : Nat) : Int), .bool x]) := by
  have e : ((a * 3600 + b * 60 + d : Nat) : Int) = (a : Int) * 3600 + (b : Int) * 60 + (d : Int) := by omega
  rw [e]
/-- What clock leaves: the seconds, where it is one. -/
def ClockPost (o : Option (Nat × Nat × Nat)) (w : World) (e : Ending) (w' : World) : Prop := w' = w ∧ ∃ v : Nat, v ≤ 40000000 ∧ e = .returned (.tuple #[.int .i64 v, .bool o.isSome]) ∧ ∀ h m s, o = some (h, m, s) → v = h * 3600 + m * 60 + s
set_option maxRecDepth 100000 in
set_option maxHeartbeats 8000000 in
theorem refClock_any (c : ByteArray) (w : World) (hc : c.size = 8) : Calls Tryd.prog 40 #[.string c] w (ClockPost (clockR c.data.toList) w) := by
  have hca : 8 ≤ c.size := Nat.le_of_eq hc.symm
  have hcl : c.data.toList.length = 8 := by simpa using hc
  have hc2 : c[2]'(Nat.lt_of_lt_of_le (by decide) hca) = c.data.toList.getD 2 0 := by
    rw [List.getD_eq_getElem?_getD, List.getElem?_eq_getElem (by simp; omega)]; rfl
  have hc5 : c[5]'(Nat.lt_of_lt_of_le (by decide) hca) = c.data.toList.getD 5 0 := by
    rw [List.getD_eq_getElem?_getD, List.getElem?_eq_getElem (by simp; omega)]; rfl
  have x1 : (c.extract 0 2).data.toList = sl c.data.toList 0 2 := by rw [Lib.extract_data]; rfl
  have x2 : (c.extract 3 5).data.toList = sl c.data.toList 3 5 := by rw [Lib.extract_data]; rfl
  have x3 : (c.extract 6 c.size).data.toList = sl c.data.toList 6 8 := by rw [Lib.extract_data, hc]; rfl
  obtain ⟨c1, h1⟩ : ∃ x, c.extract 0 2 = x := ⟨_, rfl⟩
  obtain ⟨c2, h2⟩ : ∃ x, c.extract 3 5 = x := ⟨_, rfl⟩
  obtain ⟨c3, h3⟩ : ∃ x, c.extract 6 c.size = x := ⟨_, rfl⟩
  have z1 : c1.size ≤ 4 := by rw [← h1, ByteArray.size_extract]; omega
  have z2 : c2.size ≤ 4 := by rw [← h2, ByteArray.size_extract]; omega
  have z3 : c3.size ≤ 4 := by rw [← h3, ByteArray.size_extract]; omega
  rw [h1] at x1
  rw [h2] at x2
  rw [h3] at x3
  obtain ⟨b2, hb2⟩ : ∃ b, c[2]'(Nat.lt_of_lt_of_le (by decide) hca) = b := ⟨_, rfl⟩
  obtain ⟨b5, hb5⟩ : ∃ b, c[5]'(Nat.lt_of_lt_of_le (by decide) hca) = b := ⟨_, rfl⟩
  have D1 := fun x => refDigits_any c1 x z1
  have D2 := fun x => refDigits_any c2 x z2
  have D3 := fun x => refDigits_any c3 x z3
  have l1 := num_le4 c1.data.toList
  have l2 := num_le4 c2.data.toList
  have l3 := num_le4 c3.data.toList
  have HR : Hid (clockR c.data.toList = if b2 = 58 ∧ b5 = 58 then (match numF c1.data.toList 4, numF c2.data.toList 4, numF c3.data.toList 4 with
    | some h, some m, some s => if h ≤ 23 ∧ m ≤ 59 ∧ s ≤ 59 then some (h, m, s) else none
    | _, _, _ => none) else none) := Lib.hid (by
      unfold clockR
      rw [x1, x2, x3, ← hb2, ← hb5, hc2, hc5]
      by_cases h : c.data.toList.getD 2 0 = 58 ∧ c.data.toList.getD 5 0 = 58
      · rw [if_pos h, if_pos ⟨hcl, h.1, h.2⟩]
        rfl
      · rw [if_neg h, if_neg (fun h' => h h'.2)])
  unfold numV at D1 D2 D3
  have HRR : Hid (clockR c.data.toList = if b2 = 58 ∧ b5 = 58 ∧ (numF c1.data.toList 4).isSome = true ∧ (numF c2.data.toList 4).isSome = true ∧ (numF c3.data.toList 4).isSome = true ∧ (numF c1.data.toList 4).getD 0 ≤ 23 ∧ (numF c2.data.toList 4).getD 0 ≤ 59 ∧ (numF c3.data.toList 4).getD 0 ≤ 59 then some ((numF c1.data.toList 4).getD 0, (numF c2.data.toList 4).getD 0, (numF c3.data.toList 4).getD 0) else none) := Lib.hid (by
    rw [HR.out]
    by_cases h : b2 = 58 ∧ b5 = 58
    · rw [if_pos h]
      cases numF c1.data.toList 4 with
      | none => rw [if_neg (by rintro ⟨_, _, h, _⟩; cases h)]
      | some a =>
        cases numF c2.data.toList 4 with
        | none => rw [if_neg (by rintro ⟨_, _, _, h, _⟩; cases h)]
        | some b =>
          cases numF c3.data.toList 4 with
          | none => rw [if_neg (by rintro ⟨_, _, _, _, h, _⟩; cases h)]
          | some d =>
            simp only [Option.isSome_some, Option.getD_some]
            by_cases h2 : a ≤ 23 ∧ b ≤ 59 ∧ d ≤ 59
            · rw [if_pos h2, if_pos ⟨h.1, h.2, trivial, trivial, trivial, h2.1, h2.2.1, h2.2.2⟩]
            · rw [if_neg h2, if_neg (fun h' => h2 h'.2.2.2.2.2)]
    · rw [if_neg h, if_neg (fun h' => h ⟨h'.1, h'.2.1⟩)])
  clear HR
  obtain ⟨a, ea⟩ : ∃ o, (numF c1.data.toList 4).getD 0 = o := ⟨_, rfl⟩
  obtain ⟨p1, ep1⟩ : ∃ o, (numF c1.data.toList 4).isSome = o := ⟨_, rfl⟩
  rw [ea, ep1] at D1
  rw [ea] at l1
  obtain ⟨b, eb⟩ : ∃ o, (numF c2.data.toList 4).getD 0 = o := ⟨_, rfl⟩
  obtain ⟨p2, ep2⟩ : ∃ o, (numF c2.data.toList 4).isSome = o := ⟨_, rfl⟩
  rw [eb, ep2] at D2
  rw [eb] at l2
  obtain ⟨d, ed⟩ : ∃ o, (numF c3.data.toList 4).getD 0 = o := ⟨_, rfl⟩
  obtain ⟨p3, ep3⟩ : ∃ o, (numF c3.data.toList 4).isSome = o := ⟨_, rfl⟩
  rw [ed, ep3] at D3
  rw [ed] at l3
  have HR := HRR.out
  rw [ea, ep1, eb, ep2, ed, ep3] at HR
  replace HR := Lib.hid HR
  have C1 := Lib.hid D1
  have C2 := Lib.hid D2
  have C3 := Lib.hid D3
  have e8 : (((c.size : Nat) : Int) != 8) = false := by rw [hc]; rfl
  have u58 : ∀ b : UInt8, ((b.toNat : Int) != 58) = !(decide (b = 58)) := by
    intro b
    by_cases h : b = 58
    · subst h; rfl
    · have : ¬ (b.toNat : Int) = 58 := fun e => h (UInt8.toNat_inj.1 (by have h58 : (58 : UInt8).toNat = 58 := rfl; omega))
      simp [h, this]
  have E2 := u58 b2
  have E5 := u58 b5
  obtain ⟨R, hR⟩ : ∃ R, clockR c.data.toList = R := ⟨_, rfl⟩
  rw [hR] at HR ⊢
  clear D1 D2 D3 x1 x2 x3 z1 z2 z3 ea eb ed ep1 ep2 ep3 hc2 hc5 hcl hc u58 hR HRR
  have b2l := b2.toNat_lt
  have b5l := b5.toNat_lt
  unfold ClockPost
  by_cases q2 : b2 = 58
  rotate_left
  · have HN : Hid (R = none) := Lib.hid (by rw [HR.out, if_neg (fun h => q2 h.1)])
    rw [decide_eq_false q2] at E2
    simp only [Bool.not_false] at E2
    clear HR q2 E5
    go_enter Tryd.func40, Tryd.ntmps40
    go_wp2
    go_ret2
    exact ⟨rfl, 0, by decide, by rw [HN.out]; rfl, fun _ _ _ h => by rw [HN.out] at h; cases h⟩
  by_cases q5 : b5 = 58
  rotate_left
  · have HN : Hid (R = none) := Lib.hid (by rw [HR.out, if_neg (fun h => q5 h.2.1)])
    rw [decide_eq_true q2] at E2
    rw [decide_eq_false q5] at E5
    simp only [Bool.not_false, Bool.not_true] at E2 E5
    clear HR q2 q5
    go_enter Tryd.func40, Tryd.ntmps40
    go_wp2
    go_ret2
    exact ⟨rfl, 0, by decide, by rw [HN.out]; rfl, fun _ _ _ h => by rw [HN.out] at h; cases h⟩
  rw [decide_eq_true q2] at E2
  rw [decide_eq_true q5] at E5
  simp only [Bool.not_true] at E2 E5
  have hcs : p1 = false ∨ (p1 = true ∧ p2 = false) ∨ (p1 = true ∧ p2 = true ∧ p3 = false) ∨ (p1 = true ∧ p2 = true ∧ p3 = true ∧ ¬ a ≤ 23) ∨ (p1 = true ∧ p2 = true ∧ p3 = true ∧ a ≤ 23 ∧ ¬ b ≤ 59) ∨ (p1 = true ∧ p2 = true ∧ p3 = true ∧ a ≤ 23 ∧ b ≤ 59 ∧ ¬ d ≤ 59) ∨ (p1 = true ∧ p2 = true ∧ p3 = true ∧ a ≤ 23 ∧ b ≤ 59 ∧ d ≤ 59) := by
    cases p1
    · exact .inl rfl
    cases p2
    · exact .inr (.inl ⟨rfl, rfl⟩)
    cases p3
    · exact .inr (.inr (.inl ⟨rfl, rfl, rfl⟩))
    by_cases h1 : a ≤ 23
    · by_cases h2 : b ≤ 59
      · by_cases h3 : d ≤ 59
        · exact .inr (.inr (.inr (.inr (.inr (.inr ⟨rfl, rfl, rfl, h1, h2, h3⟩)))))
        · exact .inr (.inr (.inr (.inr (.inr (.inl ⟨rfl, rfl, rfl, h1, h2, h3⟩)))))
      · exact .inr (.inr (.inr (.inr (.inl ⟨rfl, rfl, rfl, h1, h2⟩))))
    · exact .inr (.inr (.inr (.inl ⟨rfl, rfl, rfl, h1⟩)))
  rcases hcs with rfl | ⟨rfl, rfl⟩ | ⟨rfl, rfl, rfl⟩ | ⟨rfl, rfl, rfl, g1⟩ | ⟨rfl, rfl, rfl, g1, g2⟩ | ⟨rfl, rfl, rfl, g1, g2, g3⟩ | ⟨rfl, rfl, rfl, g1, g2, g3⟩
  · have HN : Hid (R = none) := Lib.hid (by rw [HR.out, if_neg (fun h => by cases h.2.2.1)])
    clear HR q2 q5
    go_enter Tryd.func40, Tryd.ntmps40
    go_wp2_with fail
    refine (C1.out w).mono ?_
    rintro e w1 ⟨rfl, hw1⟩
    replace hw1 := hw1.symm
    subst hw1
    go_wp2_with fail
    refine (C2.out w).mono ?_
    rintro e w1 ⟨rfl, hw1⟩
    replace hw1 := hw1.symm
    subst hw1
    go_wp2_with fail
    refine (C3.out w).mono ?_
    rintro e w1 ⟨rfl, hw1⟩
    replace hw1 := hw1.symm
    subst hw1
    go_wp2
    go_ret2
    exact ⟨rfl, a * 3600 + b * 60 + d, by omega, by rw [HN.out]; exact clock_ret _ _ _ _, fun _ _ _ h => by rw [HN.out] at h; cases h⟩
  · have HN : Hid (R = none) := Lib.hid (by rw [HR.out, if_neg (fun h => by cases h.2.2.2.1)])
    clear HR q2 q5
    go_enter Tryd.func40, Tryd.ntmps40
    go_wp2_with fail
    refine (C1.out w).mono ?_
    rintro e w1 ⟨rfl, hw1⟩
    replace hw1 := hw1.symm
    subst hw1
    go_wp2_with fail
    refine (C2.out w).mono ?_
    rintro e w1 ⟨rfl, hw1⟩
    replace hw1 := hw1.symm
    subst hw1
    go_wp2_with fail
    refine (C3.out w).mono ?_
    rintro e w1 ⟨rfl, hw1⟩
    replace hw1 := hw1.symm
    subst hw1
    go_wp2
    go_ret2
    exact ⟨rfl, a * 3600 + b * 60 + d, by omega, by rw [HN.out]; exact clock_ret _ _ _ _, fun _ _ _ h => by rw [HN.out] at h; cases h⟩
  · have HN : Hid (R = none) := Lib.hid (by rw [HR.out, if_neg (fun h => by cases h.2.2.2.2.1)])
    clear HR q2 q5
    go_enter Tryd.func40, Tryd.ntmps40
    go_wp2_with fail
    refine (C1.out w).mono ?_
    rintro e w1 ⟨rfl, hw1⟩
    replace hw1 := hw1.symm
    subst hw1
    go_wp2_with fail
    refine (C2.out w).mono ?_
    rintro e w1 ⟨rfl, hw1⟩
    replace hw1 := hw1.symm
    subst hw1
    go_wp2_with fail
    refine (C3.out w).mono ?_
    rintro e w1 ⟨rfl, hw1⟩
    replace hw1 := hw1.symm
    subst hw1
    go_wp2
    go_ret2
    exact ⟨rfl, a * 3600 + b * 60 + d, by omega, by rw [HN.out]; exact clock_ret _ _ _ _, fun _ _ _ h => by rw [HN.out] at h; cases h⟩
  · have HN : Hid (R = none) := Lib.hid (by rw [HR.out, if_neg (fun h => by exact g1 h.2.2.2.2.2.1)])
    have d1 : decide ((a : Int) ≤ 23) = false := decide_eq_false (by omega)
    have dn1 : decide (a ≤ 23) = false := decide_eq_false (by omega)
    clear HR q2 q5
    go_enter Tryd.func40, Tryd.ntmps40
    go_wp2_with fail
    refine (C1.out w).mono ?_
    rintro e w1 ⟨rfl, hw1⟩
    replace hw1 := hw1.symm
    subst hw1
    go_wp2_with fail
    refine (C2.out w).mono ?_
    rintro e w1 ⟨rfl, hw1⟩
    replace hw1 := hw1.symm
    subst hw1
    go_wp2_with fail
    refine (C3.out w).mono ?_
    rintro e w1 ⟨rfl, hw1⟩
    replace hw1 := hw1.symm
    subst hw1
    go_wp2
    go_ret2
    exact ⟨rfl, a * 3600 + b * 60 + d, by omega, by rw [HN.out]; exact clock_ret _ _ _ _, fun _ _ _ h => by rw [HN.out] at h; cases h⟩
  · have HN : Hid (R = none) := Lib.hid (by rw [HR.out, if_neg (fun h => by exact g2 h.2.2.2.2.2.2.1)])
    have d1 : decide ((a : Int) ≤ 23) = true := decide_eq_true (by omega)
    have dn1 : decide (a ≤ 23) = true := decide_eq_true (by omega)
    have d2 : decide ((b : Int) ≤ 59) = false := decide_eq_false (by omega)
    have dn2 : decide (b ≤ 59) = false := decide_eq_false (by omega)
    clear HR q2 q5
    go_enter Tryd.func40, Tryd.ntmps40
    go_wp2_with fail
    refine (C1.out w).mono ?_
    rintro e w1 ⟨rfl, hw1⟩
    replace hw1 := hw1.symm
    subst hw1
    go_wp2_with fail
    refine (C2.out w).mono ?_
    rintro e w1 ⟨rfl, hw1⟩
    replace hw1 := hw1.symm
    subst hw1
    go_wp2_with fail
    refine (C3.out w).mono ?_
    rintro e w1 ⟨rfl, hw1⟩
    replace hw1 := hw1.symm
    subst hw1
    go_wp2
    go_ret2
    exact ⟨rfl, a * 3600 + b * 60 + d, by omega, by rw [HN.out]; exact clock_ret _ _ _ _, fun _ _ _ h => by rw [HN.out] at h; cases h⟩
  · have HN : Hid (R = none) := Lib.hid (by rw [HR.out, if_neg (fun h => by exact g3 h.2.2.2.2.2.2.2)])
    have d1 : decide ((a : Int) ≤ 23) = true := decide_eq_true (by omega)
    have dn1 : decide (a ≤ 23) = true := decide_eq_true (by omega)
    have d2 : decide ((b : Int) ≤ 59) = true := decide_eq_true (by omega)
    have dn2 : decide (b ≤ 59) = true := decide_eq_true (by omega)
    have d3 : decide ((d : Int) ≤ 59) = false := decide_eq_false (by omega)
    have dn3 : decide (d ≤ 59) = false := decide_eq_false (by omega)
    clear HR q2 q5
    go_enter Tryd.func40, Tryd.ntmps40
    go_wp2_with fail
    refine (C1.out w).mono ?_
    rintro e w1 ⟨rfl, hw1⟩
    replace hw1 := hw1.symm
    subst hw1
    go_wp2_with fail
    refine (C2.out w).mono ?_
    rintro e w1 ⟨rfl, hw1⟩
    replace hw1 := hw1.symm
    subst hw1
    go_wp2_with fail
    refine (C3.out w).mono ?_
    rintro e w1 ⟨rfl, hw1⟩
    replace hw1 := hw1.symm
    subst hw1
    go_wp2
    go_ret2
    exact ⟨rfl, a * 3600 + b * 60 + d, by omega, by rw [HN.out]; exact clock_ret _ _ _ _, fun _ _ _ h => by rw [HN.out] at h; cases h⟩
  · have HN : Hid (R = some (a, b, d)) := Lib.hid (by rw [HR.out, if_pos ⟨q2, q5, rfl, rfl, rfl, g1, g2, g3⟩])
    have d1 : decide ((a : Int) ≤ 23) = true := decide_eq_true (by omega)
    have dn1 : decide (a ≤ 23) = true := decide_eq_true (by omega)
    have d2 : decide ((b : Int) ≤ 59) = true := decide_eq_true (by omega)
    have dn2 : decide (b ≤ 59) = true := decide_eq_true (by omega)
    have d3 : decide ((d : Int) ≤ 59) = true := decide_eq_true (by omega)
    have dn3 : decide (d ≤ 59) = true := decide_eq_true (by omega)
    clear HR q2 q5
    go_enter Tryd.func40, Tryd.ntmps40
    go_wp2_with fail
    refine (C1.out w).mono ?_
    rintro e w1 ⟨rfl, hw1⟩
    replace hw1 := hw1.symm
    subst hw1
    go_wp2_with fail
    refine (C2.out w).mono ?_
    rintro e w1 ⟨rfl, hw1⟩
    replace hw1 := hw1.symm
    subst hw1
    go_wp2_with fail
    refine (C3.out w).mono ?_
    rintro e w1 ⟨rfl, hw1⟩
    replace hw1 := hw1.symm
    subst hw1
    go_wp2
    go_ret2
    exact ⟨rfl, a * 3600 + b * 60 + d, by omega, by rw [HN.out]; exact clock_ret _ _ _ _, fun _ _ _ h => by rw [HN.out] at h; cases h; rfl⟩
end Go.Proofs.YtfnpncmdeimcbaaDoor
