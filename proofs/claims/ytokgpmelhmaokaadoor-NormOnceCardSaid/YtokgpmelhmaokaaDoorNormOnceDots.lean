/-
  Dots twice are dots once; the whole twice is the whole once.
-/
import Derived.Test.YtokgpmelhmaokaaDoorNormOnceMath
namespace Go.Proofs.YtokgpmelhmaokaaDoor
open Go.RowKit HeadMath NormMath

theorem join_more (x y : Seg) (r : List Seg) : Lib.join (x :: y :: r) [47] = x ++ 47 :: Lib.join (y :: r) [47] := by
  rw [Lib.join_cons, Lib.join_cons]
  simp [Lib.joinTail]
/-- What was joined falls into its pieces again. -/
theorem split_join : ∀ (R : List Seg), R ≠ [] → (∀ x ∈ R, ∀ c ∈ x, c ≠ 47) → splitS (Lib.join R [47]) = R
  | [], h, _ => absurd rfl h
  | [x], _, h => by rw [Lib.join_one]; exact splitS_none (h x (by simp))
  | x :: y :: r, _, h => by
    rw [join_more, splitS_app _ (h x (by simp)), split_join (y :: r) (by simp) (fun z hz => h z (List.mem_cons_of_mem _ hz))]
theorem split_join_end : ∀ (R : List Seg), R ≠ [] → (∀ x ∈ R, ∀ c ∈ x, c ≠ 47) → splitS (Lib.join R [47] ++ [47]) = R ++ [[]]
  | [], h, _ => absurd rfl h
  | [x], _, h => by rw [Lib.join_one, splitS_app [] (h x (by simp))]; rfl
  | x :: y :: r, _, h => by
    rw [join_more, List.append_assoc, List.cons_append, splitS_app _ (h x (by simp)), split_join_end (y :: r) (by simp) (fun z hz => h z (List.mem_cons_of_mem _ hz))]
    rfl
theorem strip_cons (l : List UInt8) : stripF (47 :: l) = l := by simp [stripF]
/-- A text told from pieces without dots is told so again. -/
theorem dots_text {R : List Seg} {e : Bool} (h47 : ∀ x ∈ R, ∀ c ∈ x, c ≠ 47) (hd : ∀ x ∈ R, x ≠ [46] ∧ x ≠ [46, 46]) (he : e = false → ∃ D x, R = D ++ [x] ∧ x ≠ []) : dotsF (textR R e) = textR R e := by
  have hf : R.foldl stepD [] = R := by rw [fold_plain R [] hd]; rfl
  by_cases hR : R = []
  · subst hR
    cases e with
    | false => obtain ⟨D, x, h, _⟩ := he rfl; simp at h
    | true => rfl
  · have hj := join_slash R hR
    have hne : ((R.map ([47] ++ ·)).flatten).isEmpty = false := by rw [← hj]; rfl
    cases e with
    | true =>
      have ht : textR R true = 47 :: (Lib.join R [47] ++ [47]) := by
        unfold textR
        rw [← hj]
        rfl
      rw [ht]
      unfold dotsF
      rw [strip_cons, dotsL_at (split_join_end R hR h47), foldD_empty, hf, show openD [] = true from rfl, ht]
    | false =>
      obtain ⟨D, x, hx, hxn⟩ := he rfl
      have ht : textR R false = 47 :: Lib.join R [47] := by
        unfold textR
        dsimp only
        rw [hne, ← hj]
        rfl
      have hdx := hd x (by rw [hx]; simp)
      have hfx : foldD D x = R := by
        unfold foldD
        rw [if_neg hxn, ← hx, hf]
      rw [ht]
      unfold dotsF
      rw [strip_cons, split_join R hR h47, dotsL_at hx, hfx, open_else hdx.1 hdx.2 hxn, ht]
/-- What a path's dots give: pieces without slashes and dots, all signs out of the path or slashes, and in its form where the path is. -/
theorem dots_form (s : List UInt8) : ∃ R e, dotsF s = textR R e ∧ (∀ x ∈ R, ∀ c ∈ x, c ≠ 47) ∧ (∀ x ∈ R, x ≠ [46] ∧ x ≠ [46, 46]) ∧ (e = false → ∃ D x, R = D ++ [x] ∧ x ≠ []) ∧ (∀ x ∈ R, ∀ c ∈ x, c ∈ s) ∧ (Nrm s → ∀ x ∈ R, Nrm x) := by
  obtain ⟨D, x, hL⟩ : ∃ D x, splitS (stripF s) = D ++ [x] := by
    rcases List.eq_nil_or_concat (splitS (stripF s)) with h | ⟨D, x, h⟩
    · exact absurd h (splitS_ne _)
    · exact ⟨D, x, by rw [h, List.concat_eq_append]⟩
  have hs : ∀ c ∈ stripF s, c ∈ s := by
    intro c hc
    cases s with
    | nil => cases hc
    | cons d t =>
      by_cases hd : d = 47
      · subst hd; rw [strip_cons] at hc; exact List.mem_cons_of_mem _ hc
      · rw [show stripF (d :: t) = d :: t by simp [stripF, hd]] at hc; exact hc
  have hn : Nrm s → Nrm (stripF s) := by
    intro h
    cases s with
    | nil => exact nrm_nil
    | cons d t =>
      by_cases hd : d = 47
      · subst hd; rw [strip_cons]; exact (nrm_cons (by decide)).1 h
      · rw [show stripF (d :: t) = d :: t by simp [stripF, hd]]; exact h
  have hp := splitS_pieces (stripF s)
  rw [hL] at hp
  refine ⟨foldD D x, openD x, ?_, fun y hy => (hp y (foldD_mem hy).1).1, fun y hy => (foldD_mem hy).2, ?_, fun y hy c hc => hs c ((hp y (foldD_mem hy).1).2.1 c hc), fun h y hy => (hp y (foldD_mem hy).1).2.2 (hn h)⟩
  · unfold dotsF
    rw [dotsL_at hL]
  · intro he
    have h1 : x ≠ [46] ∧ x ≠ [46, 46] ∧ x ≠ [] := by
      refine ⟨?_, ?_, ?_⟩ <;> (intro e; subst e; revert he; decide)
    refine ⟨D.foldl stepD [], x, ?_, h1.2.2⟩
    rw [foldD_more _ h1.2.2, step_else _ h1.1 h1.2.1]
theorem dots_twice (s : List UInt8) : dotsF (dotsF s) = dotsF s := by
  obtain ⟨R, e, h, h1, h2, h3, _, _⟩ := dots_form s
  rw [h]
  exact dots_text h1 h2 h3
theorem dots_ahead (s : List UInt8) : ∃ t, dotsF s = 47 :: t := by
  obtain ⟨R, e, h, _⟩ := dots_form s
  rw [h, ← text_same]
  exact ⟨_, rfl⟩
theorem flat_all {Q : UInt8 → Prop} (h47 : Q 47) {R : List Seg} (h : ∀ x ∈ R, ∀ c ∈ x, Q c) : ∀ c ∈ (R.map ([47] ++ ·)).flatten, Q c := by
  intro c hc
  obtain ⟨l, hl, hcl⟩ := List.mem_flatten.1 hc
  obtain ⟨x, hx, rfl⟩ := List.mem_map.1 hl
  rcases List.mem_append.1 hcl with h1 | h1
  · simp at h1; subst h1; exact h47
  · exact h x hx c h1
theorem text_all {Q : UInt8 → Prop} (h47 : Q 47) {R : List Seg} {e : Bool} (h : ∀ x ∈ R, ∀ c ∈ x, Q c) : ∀ c ∈ textR R e, Q c := by
  unfold textR
  dsimp only
  intro c hc
  split at hc
  · rcases List.mem_append.1 hc with h1 | h1
    · exact flat_all h47 h c h1
    · simp at h1; subst h1; exact h47
  · exact flat_all h47 h c hc
theorem dots_ask {s : List UInt8} (h : ∀ c ∈ s, c ≠ 63) : ∀ c ∈ dotsF s, c ≠ 63 := by
  obtain ⟨R, e, h0, _, _, _, h4, _⟩ := dots_form s
  rw [h0]
  exact text_all (Q := fun c => c ≠ 63) (by decide) (fun x hx c hc => h c (h4 x hx c hc))
theorem flat_nrm : ∀ {R : List Seg}, (∀ x ∈ R, Nrm x) → Nrm ((R.map ([47] ++ ·)).flatten)
  | [], _ => nrm_nil
  | x :: R, h => by
    have h1 : Nrm ([47] ++ x) := (nrm_cons (by decide)).2 (h x (by simp))
    exact h1.app (flat_nrm fun y hy => h y (List.mem_cons_of_mem _ hy))
theorem dots_nrm {s : List UInt8} (h : Nrm s) : Nrm (dotsF s) := by
  obtain ⟨R, e, h0, _, _, _, _, h5⟩ := dots_form s
  rw [h0]
  have hf := flat_nrm (h5 h)
  unfold textR
  dsimp only
  split
  · exact hf.app ((nrm_cons (by decide)).2 nrm_nil)
  · exact hf
/-- Where a query begins. -/
theorem ask_none {l : List UInt8} (h : ∀ c ∈ l, c ≠ 63) : Lib.indexByte l 63 = -1 := by
  induction l with
  | nil => rfl
  | cons c t ih =>
    have h1 : (c == 63) = false := by simpa using h c (by simp)
    rw [Lib.indexByte, h1, ih (fun d hd => h d (List.mem_cons_of_mem _ hd))]
    rfl
theorem ask_some {a : List UInt8} (b : List UInt8) (h : ∀ c ∈ a, c ≠ 63) : Lib.indexByte (a ++ 63 :: b) 63 = a.length := by
  induction a with
  | nil => rfl
  | cons c t ih =>
    have h1 : (c == 63) = false := by simpa using h c (by simp)
    rw [List.cons_append, Lib.indexByte, h1, ih (fun d hd => h d (List.mem_cons_of_mem _ hd)), if_neg (by simp), if_neg (by simp)]
    simp
theorem ask_parts {l : List UInt8} : (∀ c ∈ l, c ≠ 63) ∨ ∃ a b, l = a ++ 63 :: b ∧ ∀ c ∈ a, c ≠ 63 := by
  induction l with
  | nil => exact .inl (fun _ h => by cases h)
  | cons c t ih =>
    by_cases hc : c = 63
    · subst hc; exact .inr ⟨[], t, rfl, fun _ h => by cases h⟩
    · rcases ih with h | ⟨a, b, rfl, h⟩
      · exact .inl (fun d hd => (List.mem_cons.1 hd).elim (fun e => e ▸ hc) (h d))
      · exact .inr ⟨c :: a, b, rfl, fun d hd => (List.mem_cons.1 hd).elim (fun e => e ▸ hc) (h d)⟩
/-- The whole, as lists. -/
theorem whole_no {e : ByteArray} (h : ∀ c ∈ e.data.toList, c ≠ 63) : (wholeF e).data.toList = dotsF e.data.toList := by
  have h1 : askAt e = -1 := ask_none h
  rw [wholeF_no (by omega)]
theorem whole_at {e : ByteArray} {a b : List UInt8} (he : e.data.toList = a ++ 63 :: b) (h : ∀ c ∈ a, c ≠ 63) : (wholeF e).data.toList = dotsF a ++ 63 :: b := by
  have h1 : askAt e = (a.length : Nat) := by unfold askAt; rw [he]; exact ask_some b h
  have hz : e.size = a.length + (b.length + 1) := by rw [← size_list, he]; simp
  rw [wholeF_at h1, ByteArray.data_append, ByteArray.data_append, Array.toList_append, Array.toList_append, Lib.extract_to_end, Lib.extract_data, he]
  simp
theorem data_ext {a b : ByteArray} (h : a.data.toList = b.data.toList) : a = b := by
  apply ByteArray.ext
  exact Array.toList_inj.1 h
theorem whole_twice (e : ByteArray) : wholeF (wholeF e) = wholeF e := by
  apply data_ext
  rcases ask_parts (l := e.data.toList) with h | ⟨a, b, he, h⟩
  · have h1 := whole_no h
    rw [whole_no (by rw [h1]; exact dots_ask h), h1, dots_twice]
  · have h1 := whole_at he h
    rw [whole_at h1 (dots_ask h), dots_twice, h1]
theorem whole_ahead (e : ByteArray) : ∃ t, (wholeF e).data.toList = 47 :: t := by
  rcases ask_parts (l := e.data.toList) with h | ⟨a, b, he, h⟩
  · rw [whole_no h]; exact dots_ahead _
  · obtain ⟨t, ht⟩ := dots_ahead a
    rw [whole_at he h, ht]
    exact ⟨_, rfl⟩
theorem whole_nrm {e : ByteArray} (hN : Nrm e.data.toList) : Nrm (wholeF e).data.toList := by
  rcases ask_parts (l := e.data.toList) with h | ⟨a, b, he, h⟩
  · rw [whole_no h]; exact dots_nrm hN
  · rw [he] at hN
    have h2 := nrm_cut (c := 63) (by decide) (by decide) _ a b (Nat.le_refl _) hN
    rw [whole_at he h]
    exact (dots_nrm h2.1).app ((nrm_cons (by decide)).2 h2.2)
/-- A target's form is its own. -/
theorem target_twice {s t : List UInt8} (h : esc s = some t) : escV (wholeF ⟨t.toArray⟩).data.toList = .tuple #[.string (wholeF ⟨t.toArray⟩), .bool true] ∧ targetV (wholeF ⟨t.toArray⟩).data.toList = .tuple #[.string (wholeF ⟨t.toArray⟩), .bool true] := by
  have hn : Nrm (⟨t.toArray⟩ : ByteArray).data.toList := esc_nrm _ _ _ (Nat.le_refl _) h
  have hw := whole_nrm hn
  have e : (⟨(wholeF ⟨t.toArray⟩).data.toList.toArray⟩ : ByteArray) = wholeF ⟨t.toArray⟩ := data_ext rfl
  refine ⟨by rw [escV_some hw, e], ?_⟩
  rw [targetV_some hw, e, whole_twice]
theorem whole_size {e : ByteArray} : (wholeF e).size ≤ e.size + 2 := by
  rw [← size_list, ← size_list]
  rcases ask_parts (l := e.data.toList) with h | ⟨a, b, he, h⟩
  · rw [whole_no h]; exact dotsF_len _
  · rw [whole_at he h, he]
    have := dotsF_len a
    simp only [List.length_append, List.length_cons]
    omega
end Go.Proofs.YtokgpmelhmaokaaDoor
