/-
  How the reference steps through a line: plain mathematics.
-/
import Derived.Test.YtkbcklaloblmeaaGreatDoorMg1
import Derived.Test.YtkbcklaloblmeaaGreatDoorMg30
namespace Go.Proofs.YtkbcklaloblmeaaGreatDoor
open Go.RowKit HeadMath NormMath NormS LineMath ChunkS

theorem quotedF_suffix {l v t : Bs} (h : quotedF l = some (v, t)) : t <:+ l := by
  have key : ∀ (f : Nat) (acc r : Bs), quotedG f acc r = some (v, t) → t <:+ r := by
    intro f
    induction f with
    | zero => intro acc r h; cases h
    | succ f ih =>
      intro acc r h
      cases r with
      | nil => cases h
      | cons c r =>
        rw [quotedG] at h
        by_cases hc : c = 34
        · rw [if_pos hc] at h
          injection h with h
          injection h with _ h
          rw [← h]; exact List.suffix_cons _ _
        · rw [if_neg hc] at h
          cases hs : signF (c :: r) with
          | none => rw [hs] at h; cases h
          | some p =>
            obtain ⟨x, n⟩ := p
            rw [hs] at h
            exact (ih _ _ h).trans (List.drop_suffix _ _)
  cases l with
  | nil => cases h
  | cons c r =>
    rw [show quotedF (c :: r) = if c = 34 then quotedG (r.length + 1) [] r else none from rfl] at h
    by_cases hc : c = 34
    · rw [if_pos hc] at h
      exact (key _ _ _ h).trans (List.suffix_cons _ _)
    · rw [if_neg hc] at h; cases h
theorem refQV_step {l v t : Bs} {k : Nat} (h : quotedF (l.drop k) = some (v, t)) : ∃ j, j ≤ l.length ∧ t = l.drop j ∧ refQV l k = .tuple #[.string (arrS v), .int .i64 (j : Int)] := by
  have hs : t <:+ l := (quotedF_suffix h).trans (List.drop_suffix _ _)
  have e := List.suffix_iff_eq_drop.1 hs
  refine ⟨l.length - t.length, by omega, e, ?_⟩
  unfold refQV; rw [h]
def stepsF : Nat → Bs → Option (List Bs × Bs)
  | 0, r => some ([], r)
  | k + 1, r => match stepsF k r with
    | none => none
    | some (xs, r1) => match qS r1 with
      | none => none
      | some (v, t) => some (xs ++ [v], t)
theorem steps_more {k : Nat} {r r1 v t : Bs} {xs : List Bs} (h : stepsF k r = some (xs, r1)) (hq : qS r1 = some (v, t)) : stepsF (k + 1) r = some (xs ++ [v], t) := by
  rw [stepsF, h]; simp only [hq]
theorem steps_len : ∀ (k : Nat) {r r1 : Bs} {xs : List Bs}, stepsF k r = some (xs, r1) → xs.length = k
  | 0, _, _, _, h => by rw [stepsF] at h; injection h with h; injection h with h _; rw [← h]; rfl
  | k + 1, r, r1, xs, h => by
    rw [stepsF] at h
    cases hs : stepsF k r with
    | none => rw [hs] at h; cases h
    | some p =>
      obtain ⟨ys, r2⟩ := p
      rw [hs] at h
      simp only at h
      cases hq : qS r2 with
      | none => rw [hq] at h; cases h
      | some q =>
        obtain ⟨v, t⟩ := q
        rw [hq] at h
        simp only at h
        injection h with h
        injection h with h _
        rw [← h, List.length_append, steps_len k hs]
        rfl
theorem steps_three {r r3 : Bs} {xs : List Bs} (h : stepsF 3 r = some (xs, r3)) : ∃ m g t, xs = [m, g, t] ∧ textsF r = some (m, g, t, r3) := by
  unfold textsF
  simp only [stepsF] at h
  cases h1 : qS r with
  | none => rw [h1] at h; cases h
  | some p =>
    obtain ⟨m, r1⟩ := p
    rw [h1] at h
    simp only at h ⊢
    cases h2 : qS r1 with
    | none => rw [h2] at h; cases h
    | some p =>
      obtain ⟨g, r2⟩ := p
      rw [h2] at h
      simp only at h ⊢
      cases h3 : qS r2 with
      | none => rw [h3] at h; cases h
      | some p =>
        obtain ⟨t, r4⟩ := p
        rw [h3] at h
        simp only at h ⊢
        injection h with h
        injection h with ha hb
        exact ⟨m, g, t, ha.symm, by rw [hb]⟩
theorem steps_bad {k : Nat} {r r1 : Bs} {xs : List Bs} (hk : k < 3) (h : stepsF k r = some (xs, r1)) (hq : qS r1 = none) : textsF r = none := by
  unfold textsF
  match k, hk with
  | 0, _ =>
    simp only [stepsF] at h
    injection h with h
    injection h with _ h
    rw [h, hq]
  | 1, _ =>
    simp only [stepsF] at h
    cases h1 : qS r with
    | none => rfl
    | some p =>
      obtain ⟨m, r2⟩ := p
      rw [h1] at h
      simp only at h ⊢
      injection h with h
      injection h with _ h
      rw [h, hq]
  | 2, _ =>
    simp only [stepsF] at h
    cases h1 : qS r with
    | none => rfl
    | some p =>
      obtain ⟨m, r2⟩ := p
      rw [h1] at h
      simp only at h ⊢
      cases h2 : qS r2 with
      | none => rfl
      | some p =>
        obtain ⟨g, r4⟩ := p
        rw [h2] at h
        simp only at h ⊢
        injection h with h
        injection h with _ h
        rw [h, hq]
theorem qS_no {r : Bs} (h : ∀ c t, r = c :: t → c ≠ 32) : qS r = none := by
  cases r with
  | nil => rfl
  | cons c t => rw [qS_cons, if_neg (h c t rfl)]
theorem qS_yes (t : Bs) : qS (32 :: t) = quotedF t := by rw [qS_cons, if_pos rfl]
theorem word_at : ∀ (t : Bs) (j : Nat), j ≤ (wordOf t).length → (h : j < t.length) → (t[j] ≠ 32 → j + 1 ≤ (wordOf t).length) ∧ (t[j] = 32 → j = (wordOf t).length)
  | [], j, _, h => absurd h (by simp)
  | c :: t, j, hj, h => by
    by_cases hc : c = 32
    · have e : wordOf (c :: t) = [] := by unfold wordOf; rw [List.takeWhile_cons, if_neg (by simp [hc])]
      rw [e] at hj ⊢
      obtain rfl : j = 0 := by simpa using hj
      exact ⟨fun h => absurd hc h, fun _ => rfl⟩
    · have e : wordOf (c :: t) = c :: wordOf t := by unfold wordOf; rw [List.takeWhile_cons, if_pos (by simpa using hc)]
      rw [e] at hj ⊢
      cases j with
      | zero => exact ⟨fun _ => by simp, fun h => absurd h hc⟩
      | succ j =>
        have ih := word_at t j (by simpa using hj) (by simpa using h)
        simp only [List.getElem_cons_succ, List.length_cons]
        exact ⟨fun h => by have := ih.1 h; omega, fun h => by have := ih.2 h; omega⟩
theorem word_take (t : Bs) : t.take (wordOf t).length = wordOf t := (List.prefix_iff_eq_take.1 (List.takeWhile_prefix _)).symm
theorem nums_short {r : Bs} (h : r.length < 4) : numsF r = none := by
  cases r with
  | nil => rfl
  | cons c t =>
    rw [nums_cons]
    by_cases hc : c ≠ 32
    · rw [if_pos hc]
    · rw [if_neg hc]
      by_cases hl : (wordOf t).length = t.length
      · rw [if_pos hl]
      · rw [if_neg hl]
        cases ha : wholeF (wordOf t) with
        | none => rfl
        | some x =>
          cases hb : wholeF (t.drop ((wordOf t).length + 1)) with
          | none => rfl
          | some y =>
            have h1 := (whole_word ha).2.2
            have h2 := (whole_word hb).2.2
            have h3 : 0 < (wordOf t).length := List.length_pos_iff.2 h1
            have h4 := List.length_pos_iff.2 h2
            rw [List.length_drop] at h4
            simp at h
            omega
theorem nums_bare {c : UInt8} {t : Bs} (h : c ≠ 32) : numsF (c :: t) = none := by rw [nums_cons, if_pos h]
theorem nums_one {t : Bs} (h : (wordOf t).length = t.length) : numsF (32 :: t) = none := by rw [nums_cons, if_neg (by simp), if_pos h]
theorem nums_two {t : Bs} (h : (wordOf t).length ≠ t.length) : numsF (32 :: t) = match wholeF (wordOf t), wholeF (t.drop ((wordOf t).length + 1)) with
    | some a, some b => some (a, b)
    | _, _ => none := by
  rw [nums_cons, if_neg (by simp), if_neg h]
  cases wholeF (wordOf t) <;> cases wholeF (t.drop ((wordOf t).length + 1)) <;> rfl
/-- What the reference answers, step by step. -/
theorem refF_short {s : Bs} (h : s.length < 30) : refF s = none := by unfold refF; rw [if_pos (.inl h)]
theorem refF_bare {s : Bs} (h : s.getD 29 0 ≠ 32) : refF s = none := by unfold refF; rw [if_pos (.inr h)]
theorem refF_date {s : Bs} (h : ¬ s.length < 30) (h2 : s.getD 29 0 = 32) (hd : (DateMath.readF (s.take 29)).2 ≠ 0) : refF s = none := by unfold refF; rw [if_neg (fun q => q.elim h (fun q => q h2)), if_pos hd]
theorem refF_go {s : Bs} (h : ¬ s.length < 30) (h2 : s.getD 29 0 = 32) {t : Int} (hd : DateMath.readF (s.take 29) = (t, 0)) : refF s = match textsF ((s.drop 30).drop (wordOf (s.drop 30)).length) with
    | none => none
    | some (m, h, g, r3) =>
      if howF (wordOf (s.drop 30)) < 0 then none else
      match numsF r3 with
      | none => none
      | some (a, b) => some ⟨t, howF (wordOf (s.drop 30)), m, h, g, a, b⟩ := by unfold refF; rw [if_neg (fun q => q.elim h (fun q => q h2)), if_neg (by rw [hd]; simp)]; simp only [hd]; rfl
/-- The three texts as cells. -/
def textC (xs : List Bs) : List Value := (xs.map fun x => .string (arrS x)) ++ List.replicate (3 - xs.length) (.string ⟨#[]⟩)
theorem textC_set (xs : List Bs) (v : Bs) (h : xs.length < 3) : (textC xs).set xs.length (.string (arrS v)) = textC (xs ++ [v]) := by
  unfold textC
  rw [List.set_append_right _ _ (by simp), List.map_append, List.length_append, List.length_map, Nat.sub_self, show 3 - xs.length = (3 - (xs.length + 1)) + 1 by omega, List.replicate_succ]
  simp
theorem textC_len (xs : List Bs) (h : xs.length ≤ 3) : (textC xs).length = 3 := by unfold textC; simp; omega
end Go.Proofs.YtkbcklaloblmeaaGreatDoor
