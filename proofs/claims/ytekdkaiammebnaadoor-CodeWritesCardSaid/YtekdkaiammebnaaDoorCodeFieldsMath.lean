/-
  Lists of fields read.
-/
import Derived.Test.YtekdkaiammebnaaDoorCodeCutsMath
namespace Go.Proofs.CodeMath

abbrev Fs := List (ByteArray × ByteArray)
def mk (l : List UInt8) : ByteArray := ⟨l.toArray⟩
def stepF (s : Option (List UInt8)) : (ByteArray × ByteArray) × Option (List UInt8) := ((mk (readText s).1, mk (readText (readText s).2).1), (readText (readText s).2).2)
def iterF : Nat → Option (List UInt8) → Fs → Fs × Option (List UInt8)
  | 0, s, fs => (fs, s)
  | n + 1, s, fs => iterF n (stepF s).2 (fs ++ [(stepF s).1])
def readFields (s : Option (List UInt8)) : Fs × Option (List UInt8) := match readNum s with
  | (_, none) => ([], none)
  | (n, some t) => if n ≤ t.length then (match iterF n (some t) [] with
    | (fs, some t') => (fs, some t')
    | (_, none) => ([], none)) else ([], none)
theorem stepF_none : stepF none = ((mk [], mk []), none) := rfl
theorem iterF_none (n : Nat) : ∀ fs, (iterF n none fs).2 = none := by
  induction n with
  | zero => intro fs; rfl
  | succ n ih => intro fs; exact ih _
theorem readFields_num {s : Option (List UInt8)} {n : Nat} (h : readNum s = (n, none)) : readFields s = ([], none) := by simp only [readFields, h]
theorem readFields_long {s : Option (List UInt8)} {n : Nat} {t : List UInt8} (h : readNum s = (n, some t)) (hn : ¬ n ≤ t.length) : readFields s = ([], none) := by
  simp only [readFields, h]; rw [if_neg hn]
theorem readFields_good {s : Option (List UInt8)} {n : Nat} {t t' : List UInt8} {fs : Fs} (h : readNum s = (n, some t)) (hn : n ≤ t.length) (hi : iterF n (some t) [] = (fs, some t')) : readFields s = (fs, some t') := by
  simp only [readFields, h]; rw [if_pos hn, hi]
theorem readFields_bad {s : Option (List UInt8)} {n : Nat} {t : List UInt8} {fs : Fs} (h : readNum s = (n, some t)) (hn : n ≤ t.length) (hi : (iterF n (some t) []) = (fs, none)) : readFields s = ([], none) := by
  simp only [readFields, h]; rw [if_pos hn, hi]
theorem readText_len {s : Option (List UInt8)} {x : List UInt8} {t : List UInt8} (h : readText s = (x, some t)) : ∃ l, s = some l ∧ t.length < l.length ∧ x.length < l.length := by
  cases s with
  | none => cases h
  | some l =>
    refine ⟨l, rfl, ?_⟩
    simp only [readText, textR, countR] at h
    cases hq : numR 10 0 l with
    | none => rw [hq] at h; cases h
    | some q =>
      obtain ⟨n, u⟩ := q
      rw [hq] at h
      have hu := numR_len hq
      by_cases hn : n ≤ u.length
      · simp only at h
        rw [if_pos hn] at h
        simp only at h
        injection h with h1 h2
        injection h2 with h2
        subst h1; subst h2
        simp
        omega
      · simp only at h
        rw [if_neg hn] at h
        cases h
/-- What is read of a list is no longer than it. -/
theorem readText_le (s : Option (List UInt8)) (B : Nat) (h : ∀ l, s = some l → l.length ≤ B) : (∀ t, (readText s).2 = some t → t.length ≤ B) ∧ (readText s).1.length ≤ B := by
  obtain ⟨⟨x, r⟩, hr⟩ : ∃ r, readText s = r := ⟨_, rfl⟩
  rw [hr]
  cases r with
  | none =>
    refine ⟨(fun t e => by cases e), ?_⟩
    cases s with
    | none => injection hr with hr; subst hr; simp
    | some l =>
      simp only [readText] at hr
      split at hr
      · injection hr with _ hr; cases hr
      · injection hr with hr; subst hr; simp
  | some t =>
    obtain ⟨l, e, h1, h2⟩ := readText_len hr
    have := h l e
    exact ⟨(fun t' e' => by injection e' with e'; subst e'; omega), by simp only; omega⟩
theorem stepF_le (s : Option (List UInt8)) (B : Nat) (h : ∀ l, s = some l → l.length ≤ B) : (∀ t, (stepF s).2 = some t → t.length ≤ B) ∧ (stepF s).1.1.size ≤ B ∧ (stepF s).1.2.size ≤ B := by
  have h1 := readText_le s B h
  have h2 := readText_le (readText s).2 B h1.1
  exact ⟨h2.1, h1.2, h2.2⟩
theorem readNum_le (s : Option (List UInt8)) (B : Nat) (h : ∀ l, s = some l → l.length ≤ B) : ∀ t, (readNum s).2 = some t → t.length ≤ B := by
  intro t e
  cases s with
  | none => cases e
  | some l =>
    simp only [readNum] at e
    cases hq : numR 10 0 l with
    | none => rw [hq] at e; cases e
    | some q =>
      rw [hq] at e
      injection e with e
      subst e
      have := numR_len hq
      have := h l rfl
      omega
end Go.Proofs.CodeMath
