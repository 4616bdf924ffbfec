/-
  What is in its form stays as it is: escapes, dots, the whole.
-/
import Derived.Test.YtokgpmelhmaokaaDoorNormTarget
namespace Go.Proofs.YtokgpmelhmaokaaDoor
open Go.RowKit HeadMath NormMath

def Nrm (l : List UInt8) : Prop := esc l = some l
theorem nrm_nil : Nrm [] := rfl
theorem nrm_cons {c : UInt8} {t : List UInt8} (h : c ≠ 37) : Nrm (c :: t) ↔ Nrm t := by
  unfold Nrm
  rw [esc_cons _ h]
  constructor
  · intro e
    cases he : esc t with
    | none => rw [he] at e; cases e
    | some y => rw [he] at e; simp at e; rw [e]
  · intro e; rw [e]; rfl
theorem hexV_digit {n : Nat} (h : n < 16) : hexV (digit n) = some n := by
  have H : ∀ n : Fin 16, hexV (digit n.1) = some n.1 := by decide +kernel
  exact H ⟨n, h⟩
theorem plain_mark {v : UInt8} (h : plainB v = true) : v ≠ 37 := by
  intro e; subst e; revert h; decide
theorem nrm_one (v : UInt8) : Nrm (escOne v) := by
  by_cases hp : plainB v = true
  · unfold escOne; rw [if_pos hp]; exact (nrm_cons (plain_mark hp)).2 nrm_nil
  · have hv := v.toNat_lt
    have e : UInt8.ofNat (16 * (v.toNat / 16) + v.toNat % 16) = v := by
      rw [show 16 * (v.toNat / 16) + v.toNat % 16 = v.toNat by omega]; simp
    have h1 : escOne v = [37, digit (v.toNat / 16), digit (v.toNat % 16)] := by unfold escOne; rw [if_neg hp]
    unfold Nrm
    rw [h1, esc_pair, escPair_some (hexV_digit (by omega)) (hexV_digit (by omega)), e, h1]
    rfl
theorem esc_app : ∀ (n : Nat) (a b x : List UInt8), a.length ≤ n → esc a = some x → esc (a ++ b) = (esc b).map (x ++ ·) := by
  intro n
  induction n with
  | zero =>
    intro a b x hn h
    have : a = [] := List.eq_nil_of_length_eq_zero (by omega)
    subst this
    cases h
    simp
  | succ n ih =>
    intro a b x hn h
    cases a with
    | nil => cases h; simp
    | cons c t =>
      by_cases hc : c = 37
      · subst hc
        match t, hn, h with
        | [], _, h => rw [esc_short (by simp)] at h; cases h
        | [d], _, h => rw [esc_short (by simp)] at h; cases h
        | d :: l :: r, hn, h =>
          rw [esc_pair] at h
          rw [show (37 :: d :: l :: r) ++ b = 37 :: d :: l :: (r ++ b) from rfl, esc_pair]
          cases hp : escPair d l with
          | none => rw [hp] at h; cases h
          | some p =>
            rw [hp] at h
            cases hr : esc r with
            | none => rw [hr] at h; cases h
            | some y =>
              rw [hr] at h
              cases h
              simp only [Option.bind_some]
              rw [ih r b y (by simp at hn; omega) hr]
              cases esc b <;> simp
      · rw [esc_cons _ hc] at h
        cases hr : esc t with
        | none => rw [hr] at h; cases h
        | some y =>
          rw [hr] at h
          cases h
          rw [List.cons_append, esc_cons _ hc, ih t b y (by simp at hn; omega) hr]
          cases esc b <;> simp
theorem Nrm.app {a b : List UInt8} (ha : Nrm a) (hb : Nrm b) : Nrm (a ++ b) := by
  unfold Nrm
  rw [esc_app a.length a b a (Nat.le_refl _) ha, show esc b = some b from hb]
  rfl
theorem pair_form {h l : UInt8} {p : List UInt8} (hp : escPair h l = some p) : ∃ v, p = escOne v := by
  unfold escPair at hp
  split at hp
  · cases hp; exact ⟨_, rfl⟩
  · cases hp
/-- What the escapes give is in its form. -/
theorem esc_nrm : ∀ (n : Nat) (a x : List UInt8), a.length ≤ n → esc a = some x → Nrm x := by
  intro n
  induction n with
  | zero =>
    intro a x hn h
    have : a = [] := List.eq_nil_of_length_eq_zero (by omega)
    subst this
    cases h
    exact nrm_nil
  | succ n ih =>
    intro a x hn h
    cases a with
    | nil => cases h; exact nrm_nil
    | cons c t =>
      by_cases hc : c = 37
      · subst hc
        match t, hn, h with
        | [], _, h => rw [esc_short (by simp)] at h; cases h
        | [d], _, h => rw [esc_short (by simp)] at h; cases h
        | d :: l :: r, hn, h =>
          rw [esc_pair] at h
          cases hp : escPair d l with
          | none => rw [hp] at h; cases h
          | some p =>
            rw [hp] at h
            cases hr : esc r with
            | none => rw [hr] at h; cases h
            | some y =>
              rw [hr] at h
              cases h
              obtain ⟨v, rfl⟩ := pair_form hp
              exact (nrm_one v).app (ih r y (by simp at hn; omega) hr)
      · rw [esc_cons _ hc] at h
        cases hr : esc t with
        | none => rw [hr] at h; cases h
        | some y =>
          rw [hr] at h
          cases h
          exact (nrm_cons hc).2 (ih t y (by simp at hn; omega) hr)
/-- A percent sign in its form: two digits behind it, and what follows is in its form. -/
theorem nrm_mark {t : List UInt8} (h : Nrm (37 :: t)) : ∃ d l r, t = d :: l :: r ∧ (hexV d).isSome ∧ (hexV l).isSome ∧ Nrm r := by
  unfold Nrm at h
  match t, h with
  | [], h => rw [esc_short (by simp)] at h; cases h
  | [d], h => rw [esc_short (by simp)] at h; cases h
  | d :: l :: r, h =>
    rw [esc_pair] at h
    cases hp : escPair d l with
    | none => rw [hp] at h; cases h
    | some p =>
      rw [hp] at h
      cases hr : esc r with
      | none => rw [hr] at h; cases h
      | some y =>
        rw [hr] at h
        refine ⟨d, l, r, rfl, ?_, ?_, ?_⟩
        · cases hd : hexV d with
          | none => rw [escPair_none (.inl hd)] at hp; cases hp
          | some a => rfl
        · cases hd : hexV l with
          | none => rw [escPair_none (.inr hd)] at hp; cases hp
          | some a => rfl
        · obtain ⟨v, rfl⟩ := pair_form hp
          simp at h
          unfold escOne at h
          split at h
          · rename_i hv
            simp at h
            exact absurd h.1 (plain_mark hv)
          · simp at h
            have h2 := h.2.2
            subst h2
            exact hr
/-- A text in its form, cut at a sign that is no digit, is in its form on either side. -/
theorem nrm_cut {c : UInt8} (hc : c ≠ 37) (hd : hexV c = none) : ∀ (n : Nat) (a b : List UInt8), a.length ≤ n → Nrm (a ++ c :: b) → Nrm a ∧ Nrm b := by
  intro n
  induction n with
  | zero =>
    intro a b hn h
    have : a = [] := List.eq_nil_of_length_eq_zero (by omega)
    subst this
    exact ⟨nrm_nil, (nrm_cons hc).1 h⟩
  | succ n ih =>
    intro a b hn h
    cases a with
    | nil => exact ⟨nrm_nil, (nrm_cons hc).1 h⟩
    | cons x t =>
      by_cases hx : x = 37
      · subst hx
        obtain ⟨d, l, r, e, h1, h2, h3⟩ := nrm_mark h
        match t, hn, h, e with
        | [], _, _, e => simp at e; rw [← e.1, hd] at h1; cases h1
        | [y], _, _, e => simp at e; rw [← e.2.1, hd] at h2; cases h2
        | y :: z :: t', hn, h, e =>
          simp at e
          obtain ⟨rfl, rfl, rfl⟩ := e
          have := ih t' b (by simp at hn; omega) h3
          refine ⟨?_, this.2⟩
          have hw : esc ((37 :: y :: z :: t') ++ c :: b) = some ((37 :: y :: z :: t') ++ c :: b) := h
          unfold Nrm
          rw [esc_pair]
          rw [show (37 :: y :: z :: t') ++ c :: b = 37 :: y :: z :: (t' ++ c :: b) from rfl, esc_pair, show esc (t' ++ c :: b) = some (t' ++ c :: b) from h3] at hw
          rw [show esc t' = some t' from this.1]
          cases hp : escPair y z with
          | none => rw [hp] at hw; cases hw
          | some p =>
            rw [hp] at hw
            simp only [Option.bind_some, Option.map_some, Option.some.injEq] at hw ⊢
            have e2 : p ++ (t' ++ c :: b) = [37, y, z] ++ (t' ++ c :: b) := hw
            rw [List.append_cancel_right e2]
            rfl
      · have h' : Nrm (x :: (t ++ c :: b)) := h
        have := ih t b (by simp at hn; omega) ((nrm_cons hx).1 h')
        exact ⟨(nrm_cons hx).2 this.1, this.2⟩
/-- By the first slash. -/
theorem slash_cases (l : List UInt8) : (∀ c ∈ l, c ≠ 47) ∨ ∃ a b, l = a ++ 47 :: b ∧ ∀ c ∈ a, c ≠ 47 := by
  induction l with
  | nil => exact .inl (fun _ h => by cases h)
  | cons c t ih =>
    by_cases hc : c = 47
    · subst hc; exact .inr ⟨[], t, rfl, fun _ h => by cases h⟩
    · rcases ih with h | ⟨a, b, rfl, h⟩
      · exact .inl (fun d hd => (List.mem_cons.1 hd).elim (fun e => e ▸ hc) (h d))
      · exact .inr ⟨c :: a, b, rfl, fun d hd => (List.mem_cons.1 hd).elim (fun e => e ▸ hc) (h d)⟩
theorem splitS_all (Q : Seg → Prop) : ∀ (n : Nat) (l : List UInt8), l.length ≤ n → (∀ a b : List UInt8, l = a ++ b → True) → (∀ m : List UInt8, (∀ c ∈ m, c ≠ 47) → (∃ a b, l = a ++ m ++ b ∧ (a = [] ∨ ∃ a', a = a' ++ [47]) ∧ (b = [] ∨ ∃ b', b = 47 :: b')) → Q m) → ∀ x ∈ splitS l, Q x := by
  intro n
  induction n with
  | zero =>
    intro l hn _ h x hx
    have : l = [] := List.eq_nil_of_length_eq_zero (by omega)
    subst this
    simp [splitS] at hx
    subst hx
    exact h [] (fun _ h => by cases h) ⟨[], [], rfl, .inl rfl, .inl rfl⟩
  | succ n ih =>
    intro l hn _ h x hx
    rcases slash_cases l with h1 | ⟨a, b, rfl, h1⟩
    · rw [splitS_none h1] at hx
      simp at hx
      subst hx
      exact h x h1 ⟨[], [], by simp, .inl rfl, .inl rfl⟩
    · rw [splitS_app b h1] at hx
      rcases List.mem_cons.1 hx with rfl | hx
      · exact h x h1 ⟨[], 47 :: b, by simp, .inl rfl, .inr ⟨b, rfl⟩⟩
      · refine ih b (by simp at hn; omega) (fun _ _ _ => trivial) (fun m hm ⟨p, q, e, e1, e2⟩ => h m hm ⟨a ++ 47 :: p, q, by rw [e]; simp, ?_, e2⟩) x hx
        rcases e1 with rfl | ⟨a', rfl⟩
        · exact .inr ⟨a, rfl⟩
        · exact .inr ⟨a ++ 47 :: a', by simp⟩
/-- The pieces: no slash in them, and in their form where the text is. -/
theorem splitS_pieces (l : List UInt8) : ∀ x ∈ splitS l, (∀ c ∈ x, c ≠ 47) ∧ (∀ c ∈ x, c ∈ l) ∧ (Nrm l → Nrm x) := by
  refine splitS_all _ l.length l (Nat.le_refl _) (fun _ _ _ => trivial) (fun m hm ⟨a, b, e, e1, e2⟩ => ⟨hm, fun c hc => by rw [e]; simp [hc], fun hN => ?_⟩)
  have h47 : hexV 47 = none := by decide
  rw [e] at hN
  have hm1 : Nrm (m ++ b) := by
    rcases e1 with rfl | ⟨a', rfl⟩
    · simpa using hN
    · exact (nrm_cut (c := 47) (by decide) h47 _ a' (m ++ b) (Nat.le_refl _) (by simpa using hN)).2
  rcases e2 with rfl | ⟨b', rfl⟩
  · simpa using hm1
  · exact (nrm_cut (c := 47) (by decide) h47 _ m b' (Nat.le_refl _) hm1).1
theorem step_mem {st : List Seg} {s x : Seg} (h : x ∈ stepD st s) : x ∈ st ∨ (x = s ∧ s ≠ [46] ∧ s ≠ [46, 46]) := by
  unfold stepD at h
  split at h
  · exact .inl h
  · rename_i h1
    split at h
    · exact .inl (List.dropLast_subset _ h)
    · rename_i h2
      rcases List.mem_append.1 h with h | h
      · exact .inl h
      · simp at h; exact .inr ⟨h, h1, h2⟩
theorem fold_mem (l : List Seg) : ∀ (st : List Seg) (x : Seg), x ∈ l.foldl stepD st → x ∈ st ∨ (x ∈ l ∧ x ≠ [46] ∧ x ≠ [46, 46]) := by
  induction l with
  | nil => intro st x h; exact .inl h
  | cons s r ih =>
    intro st x h
    rcases ih _ _ h with h | ⟨h, h1⟩
    · rcases step_mem h with h | ⟨rfl, h1⟩
      · exact .inl h
      · exact .inr ⟨List.mem_cons_self .., h1⟩
    · exact .inr ⟨List.mem_cons_of_mem _ h, h1⟩
/-- Pieces that are no dots stay. -/
theorem fold_plain (l : List Seg) : ∀ st : List Seg, (∀ x ∈ l, x ≠ [46] ∧ x ≠ [46, 46]) → l.foldl stepD st = st ++ l := by
  induction l with
  | nil => intro st _; simp
  | cons s r ih =>
    intro st h
    have h1 := h s (List.mem_cons_self ..)
    rw [List.foldl_cons, step_else _ h1.1 h1.2, ih _ (fun x hx => h x (List.mem_cons_of_mem _ hx))]
    simp
theorem foldD_mem {D : List Seg} {x y : Seg} (h : y ∈ foldD D x) : y ∈ D ++ [x] ∧ y ≠ [46] ∧ y ≠ [46, 46] := by
  unfold foldD at h
  rcases fold_mem _ _ _ h with h | ⟨h, h1⟩
  · cases h
  · refine ⟨?_, h1⟩
    split at h
    · exact List.mem_append_left _ h
    · exact h
end Go.Proofs.YtokgpmelhmaokaaDoor
