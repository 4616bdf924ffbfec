/-
  The plain mathematics of glob's patterns: parts of a pattern, rows of truths, and what they say. Nothing here speaks of the program.
-/
namespace Go.Proofs.YtjdiaighfhljgaaDoor.GlobMath

/-- The next part of a pattern, and how many bytes it takes. Kinds: 0 a byte, 1 one byte but /, 2 any bytes but /, 3 any bytes. -/
def stepP : List UInt8 → Option ((Nat × UInt8) × Nat)
  | [] => none
  | c :: r =>
    if c = 42 then (if r.head? = some 42 then some ((3, 0), 2) else some ((2, 0), 1))
    else if c = 63 then some ((1, 0), 1)
    else if c = 92 then (match r with | [] => none | d :: _ => some ((0, d), 2))
    else some ((0, c), 1)

theorem stepP_pos {l : List UInt8} {x : Nat × UInt8} {k : Nat} (h : stepP l = some (x, k)) : 1 ≤ k ∧ k ≤ l.length := by
  cases l with
  | nil => simp [stepP] at h
  | cons c r =>
    simp only [stepP] at h
    by_cases h1 : c = 42
    · rw [if_pos h1] at h
      by_cases h2 : r.head? = some 42
      · rw [if_pos h2] at h
        cases r with
        | nil => simp at h2
        | cons d r => simp at h; simp; omega
      · rw [if_neg h2] at h; simp at h; simp; omega
    · rw [if_neg h1] at h
      by_cases h2 : c = 63
      · rw [if_pos h2] at h; simp at h; simp; omega
      · rw [if_neg h2] at h
        by_cases h3 : c = 92
        · rw [if_pos h3] at h
          cases r with
          | nil => simp at h
          | cons d r => simp at h; simp; omega
        · rw [if_neg h3] at h; simp at h; simp; omega

def partsF : Nat → List UInt8 → Option (List (Nat × UInt8))
  | 0, l => if l = [] then some [] else none
  | n + 1, l => if l = [] then some [] else
    match stepP l with
    | none => none
    | some (x, k) => (partsF n (l.drop k)).map (x :: ·)

theorem partsF_fuel : ∀ (n m : Nat) (l : List UInt8), l.length ≤ n → l.length ≤ m → partsF n l = partsF m l
  | 0, m, l, hn, _ => by
    have : l = [] := List.eq_nil_of_length_eq_zero (by omega)
    subst this
    cases m <;> simp [partsF]
  | n + 1, 0, l, _, hm => by
    have : l = [] := List.eq_nil_of_length_eq_zero (by omega)
    subst this
    simp [partsF]
  | n + 1, m + 1, l, hn, hm => by
    unfold partsF
    split
    · rfl
    · split
      · rfl
      · rename_i x k hs
        have := stepP_pos hs
        rw [partsF_fuel n m (l.drop k) (by simp; omega) (by simp; omega)]

/-- A pattern's parts, if it is one (whatever its length). -/
def parts (l : List UInt8) : Option (List (Nat × UInt8)) := partsF l.length l

theorem parts_nil : parts [] = some [] := rfl
theorem parts_step {l : List UInt8} {x : Nat × UInt8} {k : Nat} (h : stepP l = some (x, k)) : parts l = (parts (l.drop k)).map (x :: ·) := by
  have hp := stepP_pos h
  unfold parts
  match l with
  | [] => simp [stepP] at h
  | c :: r =>
    have : partsF (c :: r).length (c :: r) = (partsF r.length ((c :: r).drop k)).map (x :: ·) := by
      show partsF (r.length + 1) _ = _
      rw [partsF, if_neg (by simp), h]
    rw [this, partsF_fuel r.length ((c :: r).drop k).length _ (by simp; omega) (Nat.le_refl _)]
theorem parts_none {l : List UInt8} (h0 : l ≠ []) (h : stepP l = none) : parts l = none := by
  unfold parts
  match l with
  | [] => simp at h0
  | c :: r =>
    show partsF (r.length + 1) _ = _
    rw [partsF, if_neg (by simp), h]

/-- What has been read of a pattern. -/
def ReadTo (P rest : List UInt8) (done : List (Nat × UInt8)) : Prop := parts P = (parts rest).map (done ++ ·)
theorem ReadTo.start (P : List UInt8) : ReadTo P P [] := by unfold ReadTo; simp
theorem ReadTo.step {P rest : List UInt8} {done : List (Nat × UInt8)} {x : Nat × UInt8} {k : Nat} (h : ReadTo P rest done) (hs : stepP rest = some (x, k)) : ReadTo P (rest.drop k) (done ++ [x]) := by
  unfold ReadTo at *
  rw [h, parts_step hs]
  cases parts (rest.drop k) <;> simp
theorem ReadTo.end_ {P : List UInt8} {done : List (Nat × UInt8)} (h : ReadTo P [] done) : parts P = some done := by
  unfold ReadTo at h; rw [h, parts_nil]; simp
theorem ReadTo.bad {P rest : List UInt8} {done : List (Nat × UInt8)} (h : ReadTo P rest done) (h0 : rest ≠ []) (hs : stepP rest = none) : parts P = none := by
  unfold ReadTo at h; rw [h, parts_none h0 hs]; rfl

/-- May a byte stand where the part does? -/
def takes (x : Nat × UInt8) (c : UInt8) : Bool := if x.1 = 0 then c == x.2 else if x.1 = 3 then true else c != 47
def validF (p : List UInt8) : Bool := decide (p.length ≤ 200) && (parts p).isSome
end Go.Proofs.YtjdiaighfhljgaaDoor.GlobMath
