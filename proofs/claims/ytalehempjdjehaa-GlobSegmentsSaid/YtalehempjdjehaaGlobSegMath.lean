/-
  What it means that a list of parts says a text; segments, put together. Nothing here speaks of the program.
-/
import Derived.Test.YtalehempjdjehaaGlobMath
namespace Go.Proofs.Ytalehempjdjehaa.GlobMath

/-- A list of parts says a text. -/
def M : List (Nat × UInt8) → List UInt8 → Prop
  | [], t => t = []
  | x :: l, t => if lng x = true then ∃ u v, t = u ++ v ∧ (∀ c ∈ u, takes x c = true) ∧ M l v else ∃ c v, t = c :: v ∧ takes x c = true ∧ M l v

theorem af_short (x : Nat × UInt8) (g : Nat → Bool) (s : List UInt8) (h : lng x = false) (i : Nat) : af x g s i = true ↔ ∃ j, i = j + 1 ∧ g j = true ∧ takes x (s.getD j 0) = true := by
  cases i with
  | zero => simp [af, h]
  | succ i =>
    simp only [af, h]
    simp
theorem af_long (x : Nat × UInt8) (g : Nat → Bool) (s : List UInt8) (h : lng x = true) : ∀ i, af x g s i = true ↔ ∃ j, j ≤ i ∧ g j = true ∧ ∀ m, j ≤ m → m < i → takes x (s.getD m 0) = true
  | 0 => by
    simp only [af, h, Bool.true_and]
    constructor
    · intro h0; exact ⟨0, Nat.le_refl _, h0, fun m _ hm => by omega⟩
    · rintro ⟨j, hj, h0, _⟩
      have : j = 0 := by omega
      subst this; exact h0
  | i + 1 => by
    have ih := af_long x g s h i
    have e : af x g s (i + 1) = (g (i + 1) || (af x g s i && takes x (s.getD i 0))) := by
      conv => lhs; unfold af
      rw [if_pos h]
    rw [e, Bool.or_eq_true, Bool.and_eq_true, ih]
    constructor
    · rintro (h0 | ⟨⟨j, hj, hg, hm⟩, ht⟩)
      · exact ⟨i + 1, Nat.le_refl _, h0, fun m h1 h2 => by omega⟩
      · refine ⟨j, by omega, hg, fun m h1 h2 => ?_⟩
        by_cases hmi : m = i
        · subst hmi; exact ht
        · exact hm m h1 (by omega)
    · rintro ⟨j, hj, hg, hm⟩
      by_cases hji : j = i + 1
      · subst hji; exact .inl hg
      · exact .inr ⟨⟨j, by omega, hg, fun m h1 h2 => hm m h1 (by omega)⟩, hm i (by omega) (by omega)⟩

theorem rows_M (s : List UInt8) : ∀ (l : List (Nat × UInt8)) (g : Nat → Bool) (i : Nat), i ≤ s.length →
    (l.foldl (fun f x => af x f s) g i = true ↔ ∃ j, j ≤ i ∧ g j = true ∧ M l ((s.take i).drop j))
  | [], g, i, hi => by
    constructor
    · intro h; exact ⟨i, Nat.le_refl _, h, by simp [M]⟩
    · rintro ⟨j, hj, h, hm⟩
      simp only [M] at hm
      have hl := congrArg List.length hm
      simp at hl
      have : j = i := by omega
      subst this; exact h
  | x :: l, g, i, hi => by
    have ih := rows_M s l (af x g s) i hi
    have e : (x :: l).foldl (fun f x => af x f s) g i = l.foldl (fun f x => af x f s) (af x g s) i := rfl
    rw [e, ih]
    cases hx : lng x with
    | false =>
      constructor
      · rintro ⟨j, hj, h, hm⟩
        obtain ⟨j', rfl, hg, ht⟩ := (af_short x g s hx j).1 h
        refine ⟨j', by omega, hg, ?_⟩
        simp only [M, hx]
        rw [if_neg (by simp)]
        have hlt : j' < (s.take i).length := by simp; omega
        refine ⟨s.getD j' 0, (s.take i).drop (j' + 1), ?_, ht, hm⟩
        rw [List.drop_eq_getElem_cons hlt]
        congr 1
        simp [List.getElem_take, List.getElem?_eq_getElem (show j' < s.length from by omega)]
      · rintro ⟨j, hj, hg, hm⟩
        simp only [M, hx] at hm
        rw [if_neg (by simp)] at hm
        obtain ⟨c, v, hcv, ht, hmv⟩ := hm
        have hlt : j < (s.take i).length := by
          rcases Nat.lt_or_ge j (s.take i).length with h | h
          · exact h
          · rw [List.drop_eq_nil_of_le h] at hcv; cases hcv
        rw [List.drop_eq_getElem_cons hlt] at hcv
        injection hcv with h1 h2
        have hlt2 : j < i := by simp at hlt; omega
        refine ⟨j + 1, by omega, (af_short x g s hx _).2 ⟨j, rfl, hg, ?_⟩, by rw [h2]; exact hmv⟩
        have : s.getD j 0 = c := by
          rw [← h1]; simp [List.getElem_take, List.getElem?_eq_getElem (show j < s.length from by omega)]
        rw [this]; exact ht
    | true =>
      constructor
      · rintro ⟨j, hj, h, hm⟩
        obtain ⟨j', hj', hg, ht⟩ := (af_long x g s hx j).1 h
        refine ⟨j', by omega, hg, ?_⟩
        simp only [M, hx]
        rw [if_pos trivial]
        refine ⟨((s.take i).drop j').take (j - j'), (s.take i).drop j, ?_, ?_, hm⟩
        · have : (s.take i).drop j = ((s.take i).drop j').drop (j - j') := by rw [List.drop_drop]; congr 1; omega
          rw [this, List.take_append_drop]
        · intro c hc
          obtain ⟨m, hm1, hm2⟩ := List.mem_iff_getElem.1 hc
          simp at hm1
          have h1 := ht (j' + m) (by omega) (by omega)
          have : s.getD (j' + m) 0 = c := by
            rw [← hm2]
            simp [List.getElem_take, List.getElem_drop, List.getElem?_eq_getElem (show j' + m < s.length from by omega)]
          rw [← this]; exact h1
      · rintro ⟨j, hj, hg, hm⟩
        simp only [M, hx] at hm
        rw [if_pos trivial] at hm
        obtain ⟨u, v, huv, hu, hmv⟩ := hm
        have hlen := congrArg List.length huv
        simp at hlen
        have hul : u.length ≤ i - j := by omega
        refine ⟨j + u.length, by omega, (af_long x g s hx _).2 ⟨j, by omega, hg, fun m h1 h2 => ?_⟩, ?_⟩
        · have hmu : m - j < u.length := by omega
          have : s.getD m 0 = u[m - j] := by
            have e1 : ((s.take i).drop j)[m - j]? = (u ++ v)[m - j]? := by rw [huv]
            rw [List.getElem?_append_left hmu, List.getElem?_drop, List.getElem?_take] at e1
            rw [if_pos (by omega), show j + (m - j) = m from by omega] at e1
            rw [List.getD_eq_getElem?_getD, e1, List.getElem?_eq_getElem hmu]; rfl
          rw [this]; exact hu _ (List.getElem_mem hmu)
        · have : (s.take i).drop (j + u.length) = v := by
            rw [← List.drop_drop, huv, List.drop_left]
          rw [this]; exact hmv

theorem rowF_M (s : List UInt8) (l : List (Nat × UInt8)) : rowF s l s.length = true ↔ M l s := by
  unfold rowF
  rw [rows_M s l row0 s.length (Nat.le_refl _)]
  constructor
  · rintro ⟨j, _, h, hm⟩
    simp [row0] at h
    subst h
    simpa using hm
  · intro h
    exact ⟨0, Nat.zero_le _, rfl, by simpa using h⟩
theorem match_yes {p s : List UInt8} {l : List (Nat × UInt8)} (h : p.length ≤ 200) (hp : parts p = some l) (hm : M l s) : matchF p s = true := by
  unfold matchF
  rw [if_neg (by omega), hp]
  exact (rowF_M s l).2 hm
theorem match_no {p s : List UInt8} {l : List (Nat × UInt8)} (hp : parts p = some l) (hm : ¬ M l s) : matchF p s = false := by
  unfold matchF
  split
  · rfl
  · rw [hp]
    cases h : rowF s l s.length with
    | false => exact h
    | true => exact absurd ((rowF_M s l).1 h) hm

theorem M_append : ∀ (l k : List (Nat × UInt8)) (t u : List UInt8), M l t → M k u → M (l ++ k) (t ++ u)
  | [], k, t, u, h, hk => by simp only [M] at h; subst h; exact hk
  | x :: l, k, t, u, h, hk => by
    simp only [M, List.cons_append] at h ⊢
    split
    · rename_i hx
      rw [if_pos hx] at h
      obtain ⟨a, v, rfl, ha, hv⟩ := h
      exact ⟨a, v ++ u, by simp, ha, M_append l k v u hv hk⟩
    · rename_i hx
      rw [if_neg hx] at h
      obtain ⟨c, v, rfl, hc, hv⟩ := h
      exact ⟨c, v ++ u, by simp, hc, M_append l k v u hv hk⟩
theorem M_lits : ∀ a : List UInt8, M (lits a) a
  | [] => rfl
  | c :: a => by
    show M ((0, c) :: lits a) (c :: a)
    simp only [M]
    rw [if_neg (by simp [lng])]
    exact ⟨c, a, rfl, by simp [takes], M_lits a⟩
theorem M_star (x : List UInt8) (h : ∀ c ∈ x, c ≠ 47) : M [(2, 0)] x := by
  simp only [M]
  rw [if_pos (by simp [lng])]
  exact ⟨x, [], by simp, fun c hc => by simp [takes, h c hc], rfl⟩
theorem M_any (x : List UInt8) : M [(3, 0)] x := by
  simp only [M]
  rw [if_pos (by simp [lng])]
  exact ⟨x, [], by simp, fun c _ => by simp [takes], rfl⟩

def slashP (x : Nat × UInt8) : Bool := x.1 == 0 && x.2 == 47
theorem M_count : ∀ (l : List (Nat × UInt8)) (t : List UInt8), (∀ x ∈ l, x.1 = 0 ∨ x.1 = 2) → M l t → t.count 47 = l.countP slashP
  | [], t, _, h => by simp only [M] at h; subst h; rfl
  | x :: l, t, hk, h => by
    have hl : ∀ y ∈ l, y.1 = 0 ∨ y.1 = 2 := fun y hy => hk y (List.mem_cons_of_mem _ hy)
    simp only [M] at h
    rcases hk x List.mem_cons_self with h0 | h2
    · rw [if_neg (by simp [lng, h0])] at h
      obtain ⟨c, v, rfl, hc, hv⟩ := h
      have ih := M_count l v hl hv
      simp [takes, h0] at hc
      subst hc
      rw [List.count_cons, List.countP_cons, ih]
      simp [slashP, h0]
    · rw [if_pos (by simp [lng, h2])] at h
      obtain ⟨u, v, rfl, hu, hv⟩ := h
      have ih := M_count l v hl hv
      have hu0 : u.count 47 = 0 := by
        rw [List.count_eq_zero]
        intro hm
        have := hu 47 hm
        simp [takes, h2] at this
      rw [List.count_append, hu0, List.countP_cons, ih]
      simp [slashP, h2]

/-- A segment: is it starred, and its text. -/
abbrev Tok := Bool × List UInt8
def okTok (t : Tok) : Prop := ∀ c ∈ t.2, c ≠ 47 ∧ special c = false
def sOf (l : List Tok) : List UInt8 := l.flatMap fun t => 47 :: t.2
def pOf (l : List Tok) : List UInt8 := l.flatMap fun t => 47 :: if t.1 then [42] else t.2
def qOf (l : List Tok) : List UInt8 := l.flatMap fun t => 47 :: if t.1 then [42, 42] else t.2
def pParts (l : List Tok) : List (Nat × UInt8) := l.flatMap fun t => (0, 47) :: if t.1 then [(2, 0)] else lits t.2
def qParts (l : List Tok) : List (Nat × UInt8) := l.flatMap fun t => (0, 47) :: if t.1 then [(3, 0)] else lits t.2

theorem parts_slash (t : List UInt8) : parts (47 :: t) = (parts t).map ((0, 47) :: ·) := by
  have hs : stepP (47 :: t) = some ((0, 47), 1) := by simp [stepP]
  rw [parts_step hs]; rfl
theorem literal_plain : ∀ x : List UInt8, (∀ c ∈ x, special c = false) → literalF x = x
  | [], _ => rfl
  | c :: x, h => by
    have : literalF (c :: x) = (if special c then [92, c] else [c]) ++ literalF x := by simp [literalF]
    rw [this, h c List.mem_cons_self, literal_plain x (fun d hd => h d (List.mem_cons_of_mem _ hd))]; rfl
theorem parts_plain (x t : List UInt8) (h : ∀ c ∈ x, special c = false) : parts (x ++ t) = (parts t).map (lits x ++ ·) := by
  have := parts_literal x t
  rwa [literal_plain x h] at this
theorem parts_star (t : List UInt8) (h : t.head? ≠ some 42) : parts (42 :: t) = (parts t).map ((2, 0) :: ·) := by
  have hs : stepP (42 :: t) = some ((2, 0), 1) := by simp only [stepP]; rw [if_pos trivial, if_neg h]
  rw [parts_step hs]; rfl

theorem pOf_head (l : List Tok) : (pOf l).head? ≠ some 42 := by
  cases l with
  | nil => simp [pOf]
  | cons t l => simp [pOf]
theorem parts_pOf : ∀ l : List Tok, (∀ t ∈ l, okTok t) → parts (pOf l) = some (pParts l)
  | [], _ => rfl
  | t :: l, h => by
    have ih := parts_pOf l (fun u hu => h u (List.mem_cons_of_mem _ hu))
    have ht := h t List.mem_cons_self
    have e : pOf (t :: l) = 47 :: ((if t.1 then [42] else t.2) ++ pOf l) := by simp [pOf]
    have e2 : pParts (t :: l) = (0, 47) :: ((if t.1 then [(2, 0)] else lits t.2) ++ pParts l) := by simp [pParts]
    rw [e, e2, parts_slash]
    cases t.1 with
    | true =>
      simp only [if_pos]
      show ((parts (42 :: pOf l)).map ((0, 47) :: ·)) = _
      rw [parts_star _ (pOf_head l), ih]; rfl
    | false =>
      rw [if_neg (by simp), if_neg (by simp), parts_plain _ _ (fun c hc => (ht c hc).2), ih]; rfl
theorem parts_qOf (u : List UInt8) : ∀ l : List Tok, (∀ t ∈ l, okTok t) → parts (qOf l ++ u) = (parts u).map (qParts l ++ ·)
  | [], _ => by simp [qOf, qParts]
  | t :: l, h => by
    have ih := parts_qOf u l (fun u hu => h u (List.mem_cons_of_mem _ hu))
    have ht := h t List.mem_cons_self
    have e : qOf (t :: l) ++ u = 47 :: ((if t.1 then [42, 42] else t.2) ++ (qOf l ++ u)) := by simp [qOf]
    have e2 : qParts (t :: l) = (0, 47) :: ((if t.1 then [(3, 0)] else lits t.2) ++ qParts l) := by simp [qParts]
    rw [e, e2, parts_slash]
    cases t.1 with
    | true =>
      simp only [if_pos]
      show ((parts (42 :: 42 :: (qOf l ++ u))).map ((0, 47) :: ·)) = _
      rw [parts_stars, ih]
      cases parts u <;> rfl
    | false =>
      rw [if_neg (by simp), if_neg (by simp), parts_plain _ _ (fun c hc => (ht c hc).2), ih]
      cases parts u <;> simp

theorem M_slash (l : List (Nat × UInt8)) (t : List UInt8) (h : M l t) : M ((0, 47) :: l) (47 :: t) := by
  simp only [M]
  rw [if_neg (by simp [lng])]
  exact ⟨47, t, rfl, by simp [takes], h⟩
theorem M_p : ∀ l : List Tok, (∀ t ∈ l, okTok t) → M (pParts l) (sOf l)
  | [], _ => rfl
  | t :: l, h => by
    have ih := M_p l (fun u hu => h u (List.mem_cons_of_mem _ hu))
    have ht := h t List.mem_cons_self
    have e : sOf (t :: l) = 47 :: (t.2 ++ sOf l) := by simp [sOf]
    have e2 : pParts (t :: l) = (0, 47) :: ((if t.1 then [(2, 0)] else lits t.2) ++ pParts l) := by simp [pParts]
    rw [e, e2]
    refine M_slash _ _ (M_append _ _ _ _ ?_ ih)
    cases t.1 with
    | true => exact M_star _ (fun c hc => (ht c hc).1)
    | false => exact M_lits _
theorem M_q : ∀ l : List Tok, M (qParts l) (sOf l)
  | [] => rfl
  | t :: l => by
    have ih := M_q l
    have e : sOf (t :: l) = 47 :: (t.2 ++ sOf l) := by simp [sOf]
    have e2 : qParts (t :: l) = (0, 47) :: ((if t.1 then [(3, 0)] else lits t.2) ++ qParts l) := by simp [qParts]
    rw [e, e2]
    refine M_slash _ _ (M_append _ _ _ _ ?_ ih)
    cases t.1 with
    | true => exact M_any _
    | false => exact M_lits _

theorem pParts_kinds (l : List Tok) : ∀ x ∈ pParts l, x.1 = 0 ∨ x.1 = 2 := by
  intro x hx
  simp only [pParts, List.mem_flatMap] at hx
  obtain ⟨t, _, hx⟩ := hx
  rcases List.mem_cons.1 hx with rfl | hx
  · exact .inl rfl
  · cases h : t.1 <;> rw [h] at hx
    · simp [lits] at hx
      obtain ⟨c, _, rfl⟩ := hx; exact .inl rfl
    · simp at hx; subst hx; exact .inr rfl
theorem count_s (l : List Tok) (h : ∀ t ∈ l, okTok t) : (sOf l).count 47 = l.length := by
  induction l with
  | nil => rfl
  | cons t l ih =>
    have ht := h t List.mem_cons_self
    have e : sOf (t :: l) = 47 :: (t.2 ++ sOf l) := by simp [sOf]
    have h0 : t.2.count 47 = 0 := by rw [List.count_eq_zero]; intro hm; exact (ht 47 hm).1 rfl
    rw [e, List.count_cons, List.count_append, h0, ih (fun u hu => h u (List.mem_cons_of_mem _ hu))]
    simp
theorem not_longer (l : List Tok) (h : ∀ t ∈ l, okTok t) : ¬ M (pParts l) (sOf l ++ [47, 122]) := by
  intro hm
  have h1 := M_count _ _ (pParts_kinds l) hm
  have h2 := M_count _ _ (pParts_kinds l) (M_p l h)
  rw [List.count_append, h2] at h1
  simp at h1
theorem not_z (l : List Tok) : ¬ M (pParts l) (122 :: sOf l) := by
  cases l with
  | nil => simp [pParts, M]
  | cons t l =>
    have e2 : pParts (t :: l) = (0, 47) :: ((if t.1 then [(2, 0)] else lits t.2) ++ pParts l) := by simp [pParts]
    rw [e2]
    simp only [M]
    rw [if_neg (by simp [lng])]
    rintro ⟨c, v, h1, h2, _⟩
    injection h1 with h1 _
    subst h1
    simp [takes] at h2

end Go.Proofs.Ytalehempjdjehaa.GlobMath
