/-
  The plain mathematics of glob's patterns: parts of a pattern, rows of truths, and what they say. Nothing here speaks of the program.
  The plain mathematics of fields: letters, tokens, values, lists. Nothing here speaks of the program.
  norm's mathematics: escapes.
-/
namespace Go.Proofs.Ythdolhfaiofogaa.GlobMath

/-- The next part of a pattern, and how many bytes it takes. Kinds: 0 a byte, 1 one byte but /, 2 any bytes but /, 3 any bytes. -/
def stepP : List UInt8 → Option ((Nat × UInt8) × Nat)
  | [] => none
  | c :: r =>
    if c = 42 then (if r.head? = some 42 then some ((3, 0), 2) else some ((2, 0), 1))
    else if c = 63 then some ((1, 0), 1)
    else if c = 92 then (match r with | [] => none | d :: _ => some ((0, d), 2))
    else some ((0, c), 1)

theorem stepP_pos {l : List UInt8} {x : Nat × UInt8} {k : Nat} (h : stepP l = some (x, k)) : 1 ≤ k ∧ k ≤ l.length := by
  cases l with
  | nil => simp [stepP] at h
  | cons c r =>
    simp only [stepP] at h
    by_cases h1 : c = 42
    · rw [if_pos h1] at h
      by_cases h2 : r.head? = some 42
      · rw [if_pos h2] at h
        cases r with
        | nil => simp at h2
        | cons d r => simp at h; simp; omega
      · rw [if_neg h2] at h; simp at h; simp; omega
    · rw [if_neg h1] at h
      by_cases h2 : c = 63
      · rw [if_pos h2] at h; simp at h; simp; omega
      · rw [if_neg h2] at h
        by_cases h3 : c = 92
        · rw [if_pos h3] at h
          cases r with
          | nil => simp at h
          | cons d r => simp at h; simp; omega
        · rw [if_neg h3] at h; simp at h; simp; omega

def partsF : Nat → List UInt8 → Option (List (Nat × UInt8))
  | 0, l => if l = [] then some [] else none
  | n + 1, l => if l = [] then some [] else
    match stepP l with
    | none => none
    | some (x, k) => (partsF n (l.drop k)).map (x :: ·)

theorem partsF_fuel : ∀ (n m : Nat) (l : List UInt8), l.length ≤ n → l.length ≤ m → partsF n l = partsF m l
  | 0, m, l, hn, _ => by
    have : l = [] := List.eq_nil_of_length_eq_zero (by omega)
    subst this
    cases m <;> simp [partsF]
  | n + 1, 0, l, _, hm => by
    have : l = [] := List.eq_nil_of_length_eq_zero (by omega)
    subst this
    simp [partsF]
  | n + 1, m + 1, l, hn, hm => by
    unfold partsF
    split
    · rfl
    · split
      · rfl
      · rename_i x k hs
        have := stepP_pos hs
        rw [partsF_fuel n m (l.drop k) (by simp; omega) (by simp; omega)]

/-- A pattern's parts, if it is one (whatever its length). -/
def parts (l : List UInt8) : Option (List (Nat × UInt8)) := partsF l.length l

theorem parts_nil : parts [] = some [] := rfl
theorem parts_step {l : List UInt8} {x : Nat × UInt8} {k : Nat} (h : stepP l = some (x, k)) : parts l = (parts (l.drop k)).map (x :: ·) := by
  have hp := stepP_pos h
  unfold parts
  match l with
  | [] => simp [stepP] at h
  | c :: r =>
    have : partsF (c :: r).length (c :: r) = (partsF r.length ((c :: r).drop k)).map (x :: ·) := by
      show partsF (r.length + 1) _ = _
      rw [partsF, if_neg (by simp), h]
    rw [this, partsF_fuel r.length ((c :: r).drop k).length _ (by simp; omega) (Nat.le_refl _)]
theorem parts_none {l : List UInt8} (h0 : l ≠ []) (h : stepP l = none) : parts l = none := by
  unfold parts
  match l with
  | [] => simp at h0
  | c :: r =>
    show partsF (r.length + 1) _ = _
    rw [partsF, if_neg (by simp), h]

theorem stepP_kind {l : List UInt8} {x : Nat × UInt8} {k : Nat} (h : stepP l = some (x, k)) : x.1 ≤ 3 := by
  cases l with
  | nil => simp [stepP] at h
  | cons c r =>
    simp only [stepP] at h
    by_cases h1 : c = 42
    · rw [if_pos h1] at h
      by_cases h2 : r.head? = some 42
      · rw [if_pos h2] at h; simp at h; simp [← h.1]
      · rw [if_neg h2] at h; simp at h; simp [← h.1]
    · rw [if_neg h1] at h
      by_cases h2 : c = 63
      · rw [if_pos h2] at h; simp at h; simp [← h.1]
      · rw [if_neg h2] at h
        by_cases h3 : c = 92
        · rw [if_pos h3] at h
          cases r with
          | nil => simp at h
          | cons d r => simp at h; simp [← h.1]
        · rw [if_neg h3] at h; simp at h; simp [← h.1]
theorem partsF_kind : ∀ (n : Nat) (l : List UInt8) (r : List (Nat × UInt8)), partsF n l = some r → ∀ x ∈ r, x.1 ≤ 3
  | 0, l, r, h, x, hx => by
    unfold partsF at h
    split at h
    · simp at h; subst h; simp at hx
    · simp at h
  | n + 1, l, r, h, x, hx => by
    unfold partsF at h
    split at h
    · simp at h; subst h; simp at hx
    · split at h
      · simp at h
      · rename_i y k hs
        simp at h
        obtain ⟨r', h1, h2⟩ := h
        subst h2
        rcases List.mem_cons.1 hx with rfl | hx
        · exact stepP_kind hs
        · exact partsF_kind n _ r' h1 x hx
theorem parts_kind {l : List UInt8} {r : List (Nat × UInt8)} (h : parts l = some r) : ∀ x ∈ r, x.1 ≤ 3 := partsF_kind _ _ _ h
theorem partsF_len : ∀ (n : Nat) (l : List UInt8) (r : List (Nat × UInt8)), partsF n l = some r → r.length ≤ l.length
  | 0, l, r, h => by
    unfold partsF at h
    split at h
    · simp at h; subst h; simp
    · simp at h
  | n + 1, l, r, h => by
    unfold partsF at h
    split at h
    · simp at h; subst h; simp
    · split at h
      · simp at h
      · rename_i y k hs
        simp at h
        obtain ⟨r', h1, h2⟩ := h
        subst h2
        have := partsF_len n _ r' h1
        have := stepP_pos hs
        simp at *
        omega
theorem parts_len {l : List UInt8} {r : List (Nat × UInt8)} (h : parts l = some r) : r.length ≤ l.length := partsF_len _ _ _ h

/-- What has been read of a pattern. -/
def ReadTo (P rest : List UInt8) (done : List (Nat × UInt8)) : Prop := parts P = (parts rest).map (done ++ ·)
theorem ReadTo.start (P : List UInt8) : ReadTo P P [] := by unfold ReadTo; simp
theorem ReadTo.step {P rest : List UInt8} {done : List (Nat × UInt8)} {x : Nat × UInt8} {k : Nat} (h : ReadTo P rest done) (hs : stepP rest = some (x, k)) : ReadTo P (rest.drop k) (done ++ [x]) := by
  unfold ReadTo at *
  rw [h, parts_step hs]
  cases parts (rest.drop k) <;> simp
theorem ReadTo.end_ {P : List UInt8} {done : List (Nat × UInt8)} (h : ReadTo P [] done) : parts P = some done := by
  unfold ReadTo at h; rw [h, parts_nil]; simp
theorem ReadTo.bad {P rest : List UInt8} {done : List (Nat × UInt8)} (h : ReadTo P rest done) (h0 : rest ≠ []) (hs : stepP rest = none) : parts P = none := by
  unfold ReadTo at h; rw [h, parts_none h0 hs]; rfl

/-- No \ at the end that takes nothing. -/
def okB : List UInt8 → Bool
  | [] => true
  | [c] => c != 92
  | c :: d :: r => if c = 92 then okB r else okB (d :: r)

theorem okB_cons (c : UInt8) (r : List UInt8) (h : c ≠ 92) : okB (c :: r) = okB r := by
  cases r with
  | nil => simp [okB, h]
  | cons d r => simp [okB, h]
theorem okB_esc (d : UInt8) (r : List UInt8) : okB (92 :: d :: r) = okB r := by simp [okB]

theorem parts_ok : ∀ (n : Nat) (l : List UInt8), l.length ≤ n → (parts l).isSome = okB l
  | 0, l, hn => by
    have : l = [] := List.eq_nil_of_length_eq_zero (by omega)
    subst this; rfl
  | n + 1, [], _ => rfl
  | n + 1, c :: r, hn => by
    have ih := parts_ok n
    simp at hn
    by_cases h1 : c = 42
    · subst h1
      rw [okB_cons _ _ (by decide)]
      by_cases h2 : r.head? = some 42
      · match r, h2, hn with
        | d :: r', h2, hn =>
          simp at h2; subst h2
          have hs : stepP (42 :: 42 :: r') = some ((3, 0), 2) := by simp [stepP]
          rw [parts_step hs, Option.isSome_map, okB_cons _ _ (by decide)]
          simpa using ih r' (by simp at hn; omega)
      · have hs : stepP (42 :: r) = some ((2, 0), 1) := by simp [stepP, h2]
        rw [parts_step hs, Option.isSome_map]
        simpa using ih r (by omega)
    · by_cases h2 : c = 63
      · subst h2
        have hs : stepP (63 :: r) = some ((1, 0), 1) := by simp [stepP]
        rw [parts_step hs, Option.isSome_map, okB_cons _ _ (by decide)]
        simpa using ih r (by omega)
      · by_cases h3 : c = 92
        · subst h3
          match r, hn with
          | [], _ => rw [parts_none (by simp) (by simp [stepP])]; rfl
          | d :: r', hn =>
            have hs : stepP (92 :: d :: r') = some ((0, d), 2) := by simp [stepP]
            rw [parts_step hs, Option.isSome_map, okB_esc]
            simpa using ih r' (by simp at hn; omega)
        · have hs : stepP (c :: r) = some ((0, c), 1) := by simp [stepP, h1, h2, h3]
          rw [parts_step hs, Option.isSome_map, okB_cons _ _ h3]
          simpa using ih r (by omega)

/-- May a byte stand where the part does? -/
def takes (x : Nat × UInt8) (c : UInt8) : Bool := if x.1 = 0 then c == x.2 else if x.1 = 3 then true else c != 47
def lng (x : Nat × UInt8) : Bool := x.1 == 2 || x.1 == 3

/-- The row behind one more part. -/
def af (x : Nat × UInt8) (row : Nat → Bool) (s : List UInt8) : Nat → Bool
  | 0 => lng x && row 0
  | i + 1 => if lng x then row (i + 1) || (af x row s i && takes x (s.getD i 0)) else row i && takes x (s.getD i 0)

def row0 : Nat → Bool := fun i => i == 0
def rowF (s : List UInt8) (l : List (Nat × UInt8)) : Nat → Bool := l.foldl (fun f x => af x f s) row0
theorem rowF_snoc (s : List UInt8) (l : List (Nat × UInt8)) (x : Nat × UInt8) : rowF s (l ++ [x]) = af x (rowF s l) s := by simp [rowF]

def validF (p : List UInt8) : Bool := decide (p.length ≤ 200) && (parts p).isSome
def matchF (p s : List UInt8) : Bool :=
  if 200 < p.length then false else
  match parts p with
  | none => false
  | some l => rowF s l s.length

def lits (s : List UInt8) : List (Nat × UInt8) := s.map fun c => (0, c)
theorem af_lit_zero (c : UInt8) (g : Nat → Bool) (s : List UInt8) : af (0, c) g s 0 = false := by simp [af, lng]
theorem af_lit_succ (c : UInt8) (g : Nat → Bool) (s : List UInt8) (i : Nat) : af (0, c) g s (i + 1) = (g i && (s.getD i 0 == c)) := by simp [af, lng, takes]

/-- A run of bytes behind a row. -/
theorem lits_row (s : List UInt8) : ∀ (a : List UInt8) (g : Nat → Bool) (i : Nat),
    (lits a).foldl (fun f x => af x f s) g i = true ↔ ∃ j, i = j + a.length ∧ g j = true ∧ ∀ m, m < a.length → s.getD (j + m) 0 = a.getD m 0
  | [], g, i => by
    constructor
    · intro h; exact ⟨i, by simp, h, fun m hm => by simp at hm⟩
    · rintro ⟨j, hj, h, _⟩; simp at hj; subst hj; exact h
  | c :: a, g, i => by
    have ih := lits_row s a (af (0, c) g s) i
    have e : (lits (c :: a)).foldl (fun f x => af x f s) g i = (lits a).foldl (fun f x => af x f s) (af (0, c) g s) i := rfl
    rw [e, ih]
    constructor
    · rintro ⟨j, hj, h, hm⟩
      cases j with
      | zero => rw [af_lit_zero] at h; simp at h
      | succ j =>
        rw [af_lit_succ] at h
        simp at h
        refine ⟨j, by simp; omega, h.1, fun m hml => ?_⟩
        cases m with
        | zero => simpa using h.2
        | succ m =>
          have := hm m (by simp at hml; omega)
          simp only [List.getD_cons_succ]
          rw [← this]; congr 1; omega
    · rintro ⟨j, hj, h, hm⟩
      refine ⟨j + 1, by simp at hj; omega, ?_, fun m hml => ?_⟩
      · rw [af_lit_succ, h]
        have := hm 0 (by simp)
        simp at this
        simp [this]
      · have := hm (m + 1) (by simp; omega)
        simp only [List.getD_cons_succ] at this
        rw [← this]; congr 1; omega

theorem rowF_lits (s a : List UInt8) (i : Nat) : rowF s (lits a) i = true ↔ i = a.length ∧ ∀ m, m < a.length → s.getD m 0 = a.getD m 0 := by
  unfold rowF
  rw [lits_row]
  constructor
  · rintro ⟨j, hj, h, hm⟩
    simp [row0] at h
    subst h
    simp at hj hm
    exact ⟨hj, by simpa using hm⟩
  · rintro ⟨hj, hm⟩
    exact ⟨0, by simpa using hj, rfl, by simpa using hm⟩

theorem eq_of_getD {a b : List UInt8} (hl : a.length = b.length) (h : ∀ m, m < a.length → b.getD m 0 = a.getD m 0) : a = b := by
  apply List.ext_getElem hl
  intro i h1 h2
  have := h i h1
  simp [h1, h2] at this
  exact this.symm

theorem match_lits {p a b : List UInt8} (hp : parts p = some (lits a)) (hl : p.length ≤ 200) : matchF p b = decide (a = b) := by
  unfold matchF
  rw [if_neg (by omega), hp]
  simp only
  rw [Bool.eq_iff_iff, rowF_lits]
  simp only [decide_eq_true_eq]
  constructor
  · rintro ⟨h1, h2⟩; exact eq_of_getD h1.symm h2
  · rintro rfl; exact ⟨rfl, fun _ _ => rfl⟩

theorem af_any_zero (c : UInt8) (g : Nat → Bool) (s : List UInt8) : af (3, c) g s 0 = g 0 := by simp [af, lng]
theorem af_any_succ (c : UInt8) (g : Nat → Bool) (s : List UInt8) (i : Nat) : af (3, c) g s (i + 1) = (g (i + 1) || af (3, c) g s i) := by simp [af, lng, takes]
theorem af_any (c : UInt8) (g : Nat → Bool) (s : List UInt8) (j : Nat) (h : g j = true) : ∀ i, af (3, c) g s (j + i) = true
  | 0 => by
    cases j with
    | zero => rw [Nat.add_zero, af_any_zero]; exact h
    | succ j => rw [Nat.add_zero, af_any_succ, h]; rfl
  | i + 1 => by
    rw [← Nat.add_assoc, af_any_succ, af_any c g s j h i]; simp

theorem match_all (b : List UInt8) : matchF [42, 42] b = true := by
  have h : parts [42, 42] = some [(3, 0)] := by decide
  unfold matchF
  rw [if_neg (by simp), h]
  have := af_any 0 row0 b 0 rfl b.length
  simpa [rowF] using this

end Go.Proofs.Ythdolhfaiofogaa.GlobMath
namespace Go.Proofs.Ythdolhfaiofogaa.HeadMath

def small (c : UInt8) : UInt8 := if 65 ≤ c.toNat ∧ c.toNat ≤ 90 then UInt8.ofNat (c.toNat + 32) else c
theorem small_up {c : UInt8} (h : 65 ≤ c.toNat ∧ c.toNat ≤ 90) : (small c).toNat = c.toNat + 32 := by
  unfold small; rw [if_pos h]; simp; omega
theorem small_other {c : UInt8} (h : ¬ (65 ≤ c.toNat ∧ c.toNat ≤ 90)) : small c = c := by
  unfold small; rw [if_neg h]
def digitB (c : UInt8) : Bool := decide (48 ≤ c.toNat ∧ c.toNat ≤ 57)
def letterB (c : UInt8) : Bool := decide (97 ≤ (small c).toNat ∧ (small c).toNat ≤ 122)
def marks : List UInt8 := [33, 35, 36, 37, 38, 39, 42, 43, 45, 46, 94, 95, 96, 124, 126]
def signB (c : UInt8) : Bool := letterB c || digitB c || marks.contains c
def tokenF (s : List UInt8) : Bool := s.all signB && !s.isEmpty
def blankB (c : UInt8) : Bool := c == 32 || c == 9
def textB (c : UInt8) : Bool := c == 9 || !(decide (c.toNat < 32) || c == 127)
def trimL (s : List UInt8) : List UInt8 := s.dropWhile blankB
def trimF (s : List UInt8) : List UInt8 := trimL (trimL s.reverse).reverse
def valueF (s : List UInt8) : Bool := s.all textB && s == trimF s
def lowF (s : List UInt8) : List UInt8 := s.map small
def sameF (a b : List UInt8) : Bool := lowF a == lowF b

theorem sameF_len {a b : List UInt8} (h : a.length ≠ b.length) : sameF a b = false := by
  unfold sameF lowF
  rw [beq_eq_false_iff_ne]
  intro e
  have := congrArg List.length e
  simp at this
  exact h this

end Go.Proofs.Ythdolhfaiofogaa.HeadMath
namespace Go.Proofs.Ythdolhfaiofogaa.NormMath
open Go.Proofs.Ythdolhfaiofogaa.HeadMath

end Go.Proofs.Ythdolhfaiofogaa.NormMath
