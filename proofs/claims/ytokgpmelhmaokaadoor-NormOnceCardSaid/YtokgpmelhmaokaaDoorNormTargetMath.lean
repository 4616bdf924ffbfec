/-
  How long the parts of a target are, and a target's whole form.
-/
import Derived.Test.YtokgpmelhmaokaaDoorNormDotsParts
import Derived.Test.YtokgpmelhmaokaaDoorNormSplit
namespace Go.Proofs.YtokgpmelhmaokaaDoor
open Go.RowKit HeadMath NormMath

def total (l : List Seg) : Nat := ((l.map ([47] ++ ·)).flatten).length
theorem total_app (a b : List Seg) : total (a ++ b) = total a + total b := by simp [total]
theorem total_one (x : Seg) : total [x] = x.length + 1 := by simp [total]
theorem total_drop (l : List Seg) : total l.dropLast ≤ total l := by
  rcases List.eq_nil_or_concat l with h | ⟨a, x, h⟩
  · subst h; simp
  · subst h; rw [List.concat_eq_append, List.dropLast_concat, total_app]; omega
theorem step_total (st : List Seg) (s : Seg) : total (stepD st s) ≤ total st + total [s] := by
  unfold stepD
  split
  · omega
  · split
    · have := total_drop st; omega
    · rw [total_app]; omega
theorem fold_total (l : List Seg) : ∀ st : List Seg, total (l.foldl stepD st) ≤ total st + total l := by
  induction l with
  | nil => intro st; simp [total]
  | cons s r ih =>
    intro st
    have h1 := ih (stepD st s)
    have h2 := step_total st s
    have h3 : total (s :: r) = total [s] + total r := by rw [← total_app]; rfl
    rw [List.foldl_cons]
    omega
theorem splitS_total (l : List UInt8) : total (splitS l) = l.length + 1 := by
  induction l with
  | nil => rfl
  | cons c t ih =>
    unfold splitS
    by_cases h : c = 47
    · rw [if_pos h]
      have e : total ([] :: splitS t) = total [[]] + total (splitS t) := by rw [← total_app]; rfl
      rw [e, ih, total_one]; simp; omega
    · rw [if_neg h]
      cases hs : splitS t with
      | nil => exact absurd hs (splitS_ne t)
      | cons x r =>
        rw [hs] at ih
        have e1 : total (x :: r) = total [x] + total r := by rw [← total_app]; rfl
        have e2 : total ((c :: x) :: r) = total [c :: x] + total r := by rw [← total_app]; rfl
        show total ((c :: x) :: r) = _
        rw [total_one] at e1 e2
        rw [e2]
        simp only [List.length_cons]
        omega
theorem stripF_len (s : List UInt8) : (stripF s).length ≤ s.length := by
  cases s with
  | nil => simp [stripF]
  | cons c t =>
    show (if c = 47 then t else c :: t).length ≤ _
    split
    · rw [List.length_cons]; omega
    · exact Nat.le_refl _
theorem dotsF_len (s : List UInt8) : (dotsF s).length ≤ s.length + 2 := by
  unfold dotsF
  obtain ⟨D, x, hL⟩ : ∃ D x, splitS (stripF s) = D ++ [x] := by
    rcases List.eq_nil_or_concat (splitS (stripF s)) with h | ⟨D, x, h⟩
    · exact absurd h (splitS_ne _)
    · exact ⟨D, x, by rw [h, List.concat_eq_append]⟩
  rw [dotsL_at hL]
  have h1 := splitS_total (stripF s)
  have h2 := stripF_len s
  have h3 : total (foldD D x) ≤ total (splitS (stripF s)) := by
    unfold foldD
    refine Nat.le_trans (fold_total _ _) ?_
    rw [hL]
    split
    · rw [total_app]; simp [total]
    · simp [total]
  have h4 : (textR (foldD D x) (openD x)).length ≤ total (foldD D x) + 1 := by
    unfold textR total
    dsimp only
    split
    · rw [List.length_append]; simp
    · omega
  omega
theorem escPair_len {h l : UInt8} {x : List UInt8} (hx : escPair h l = some x) : x.length ≤ 3 := by
  unfold escPair at hx
  revert hx
  cases hexV h with
  | none => intro hx; simp at hx
  | some a =>
    cases hexV l with
    | none => intro hx; simp at hx
    | some b => intro hx; simp at hx; subst hx; unfold escOne; split <;> simp
theorem esc_len : ∀ (n : Nat) (s t : List UInt8), s.length ≤ n → esc s = some t → t.length ≤ s.length := by
  intro n
  induction n with
  | zero => intro s t hs h; have : s = [] := List.eq_nil_of_length_eq_zero (by omega); subst this; simp [esc] at h; subst h; simp
  | succ n ih =>
    intro s t hs h
    match s, hs, h with
    | [], _, h => simp [esc] at h; subst h; simp
    | [c], _, h => 
      unfold esc at h
      split at h
      · cases h
      · cases h; simp
    | [c, d], hs, h =>
      unfold esc at h
      split at h
      · cases h
      · cases he : esc [d] with
        | none => rw [he] at h; cases h
        | some y => rw [he] at h; cases h; have := ih [d] y (by simp at hs ⊢; omega) he; simp at this ⊢; omega
    | c :: a :: b :: r, hs, h =>
      unfold esc at h
      split at h
      · cases hp : escPair a b with
        | none => rw [hp] at h; cases h
        | some x =>
          cases he : esc r with
          | none => rw [hp, he] at h; cases h
          | some y =>
            rw [hp, he] at h; cases h
            have h1 := ih r y (by simp at hs ⊢; omega) he
            have h2 := escPair_len hp
            simp at h1 h2 ⊢
            omega
      · cases he : esc (a :: b :: r) with
        | none => rw [he] at h; cases h
        | some y => rw [he] at h; cases h; have := ih (a :: b :: r) y (by simp at hs ⊢; omega) he; simp at this ⊢; omega
/-- A target's whole form, of what its escapes give. -/
def wholeF (e : ByteArray) : ByteArray := if askAt e < 0 then ⟨(dotsF e.data.toList).toArray⟩ else ⟨(dotsF (e.extract 0 (askAt e).toNat).data.toList).toArray⟩ ++ ⟨#[63]⟩ ++ e.extract ((askAt e).toNat + 1) e.size
def targetV (s : List UInt8) : Value := match esc s with
  | some t => .tuple #[.string (wholeF ⟨t.toArray⟩), .bool true]
  | none => .tuple #[.string ⟨#[]⟩, .bool false]
theorem wholeF_no {e : ByteArray} (h : askAt e < 0) : wholeF e = ⟨(dotsF e.data.toList).toArray⟩ := by unfold wholeF; rw [if_pos h]
theorem wholeF_at {e : ByteArray} {i : Nat} (h : askAt e = i) : wholeF e = ⟨(dotsF (e.extract 0 i).data.toList).toArray⟩ ++ ⟨#[63]⟩ ++ e.extract (i + 1) e.size := by unfold wholeF; rw [if_neg (by omega), h]; rfl
end Go.Proofs.YtokgpmelhmaokaaDoor
