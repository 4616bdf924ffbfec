/-
  The bytes of numbers, texts and lists, as plain mathematics.
-/
namespace Go.Proofs.CodeMath

/-- A number's bytes: f more than one at most. -/
def numG : Nat → Nat → List UInt8
  | 0, n => [UInt8.ofNat n]
  | f + 1, n => if n < 128 then [UInt8.ofNat n] else UInt8.ofNat (n % 128 + 128) :: numG f (n / 128)
def numF (n : Nat) : List UInt8 := numG 9 n
theorem numG_small {f n : Nat} (h : n < 128) : numG f n = [UInt8.ofNat n] := by cases f <;> simp [numG, h]
theorem numG_len (f n : Nat) : (numG f n).length ≤ f + 1 := by
  induction f generalizing n with
  | zero => simp [numG]
  | succ f ih =>
    unfold numG
    split
    · simp
    · simp; exact ih _
theorem numF_len (n : Nat) : (numF n).length ≤ 10 := numG_len 9 n
/-- A number of 64 bits; one that has room in f bytes and one. -/
def U64 (n : Nat) : Prop := n < 18446744073709551616
def Fit (m f : Nat) : Prop := m < 2 ^ (1 + 7 * f)
theorem fit_start {n : Nat} (h : U64 n) : Fit n 9 := h
theorem fit_zero {m : Nat} (h : Fit m 0) : m < 128 := by unfold Fit at h; omega
theorem fit_next {m f : Nat} (h : Fit m (f + 1)) : Fit (m / 128) f := by
  unfold Fit at h ⊢
  rw [show 1 + 7 * (f + 1) = (1 + 7 * f) + 7 by omega, Nat.pow_add] at h
  exact Nat.div_lt_of_lt_mul (by rw [Nat.mul_comm]; exact h)
theorem numG_next {m f : Nat} (h : 128 ≤ m) : numG (f + 1) m = UInt8.ofNat (m % 128 + 128) :: numG f (m / 128) := by
  rw [numG, if_neg (by omega)]
theorem numF_known : numF 300 = [172, 2] := by decide +kernel

/-- A number read: so many bytes there may be still, so much was read. -/
def numR : Nat → Nat → List UInt8 → Option (Nat × List UInt8)
  | 0, _, _ => none
  | _ + 1, _, [] => none
  | f + 1, n, c :: t =>
    if f = 0 ∧ 1 < c.toNat then none
    else if c.toNat < 128 then (if c.toNat = 0 ∧ f < 9 then none else some (n + c.toNat % 128 * 2 ^ (7 * (9 - f)), t))
    else numR f (n + c.toNat % 128 * 2 ^ (7 * (9 - f))) t
def countR (l : List UInt8) : Option (Nat × List UInt8) := match numR 10 0 l with
  | some (n, t) => if n ≤ t.length then some (n, t) else none
  | none => none
def textR (l : List UInt8) : Option (List UInt8 × List UInt8) := match countR l with
  | some (n, t) => some (t.take n, t.drop n)
  | none => none
theorem numR_len {f n : Nat} {l : List UInt8} {r : Nat} {t : List UInt8} (h : numR f n l = some (r, t)) : t.length < l.length := by
  induction f generalizing n l with
  | zero => simp [numR] at h
  | succ f ih =>
    cases l with
    | nil => simp [numR] at h
    | cons c l =>
      unfold numR at h
      split at h
      · cases h
      · split at h
        · split at h
          · cases h
          · injection h with h
            injection h with _ h
            subst h
            simp
        · have := ih h
          simp; omega
/-- What a Reader answers, and what is left then (nothing: it failed). -/
def readNum : Option (List UInt8) → Nat × Option (List UInt8)
  | none => (0, none)
  | some l => match numR 10 0 l with
    | some (n, t) => (n, some t)
    | none => (0, none)
def readText : Option (List UInt8) → List UInt8 × Option (List UInt8)
  | none => ([], none)
  | some l => match textR l with
    | some (x, t) => (x, some t)
    | none => ([], none)
def doneF : Option (List UInt8) → Nat
  | some [] => 0
  | _ => 20
/-- The text behind its length; the fields behind their number. -/
def textF (b : List UInt8) : List UInt8 := numF b.length ++ b
def fieldF (f : ByteArray × ByteArray) : List UInt8 := textF f.1.data.toList ++ textF f.2.data.toList
def fieldsF (l : List (ByteArray × ByteArray)) : List UInt8 := numF l.length ++ l.flatMap fieldF
end Go.Proofs.CodeMath
