/-
  norm's mathematics: escapes.
-/
import Derived.Test.YtokgpmelhmaokaaDoorHeadMath
namespace Go.Proofs.YtokgpmelhmaokaaDoor.NormMath
open Go.Proofs.YtokgpmelhmaokaaDoor.HeadMath

def hexV (c : UInt8) : Option Nat :=
  if 48 ≤ c.toNat ∧ c.toNat ≤ 57 then some (c.toNat - 48) else if 97 ≤ c.toNat ∧ c.toNat ≤ 102 then some (c.toNat - 87) else if 65 ≤ c.toNat ∧ c.toNat ≤ 70 then some (c.toNat - 55) else none
theorem hexV_lt {c : UInt8} {a : Nat} (h : hexV c = some a) : a < 16 := by
  unfold hexV at h
  split at h
  · cases h; omega
  · split at h
    · cases h; omega
    · split at h
      · cases h; omega
      · cases h
def upB (c : UInt8) : UInt8 := if 97 ≤ c.toNat ∧ c.toNat ≤ 122 then UInt8.ofNat (c.toNat - 32) else c
def digit (n : Nat) : UInt8 := if n < 10 then UInt8.ofNat (48 + n) else UInt8.ofNat (55 + n)
theorem up_digit {c : UInt8} {a : Nat} (h : hexV c = some a) : upB c = digit a := by
  have H : ∀ c : UInt8, ∀ a : Nat, hexV c = some a → upB c = digit a := by
    intro c a h
    have hc := c.toNat_lt
    unfold hexV at h
    unfold upB digit
    split at h
    · cases h
      rw [if_neg (by omega), if_pos (by omega)]
      apply UInt8.toNat_inj.1; simp; omega
    · split at h
      · cases h
        rw [if_pos (by omega), if_neg (by omega)]
        apply UInt8.toNat_inj.1; simp; omega
      · split at h
        · cases h
          rw [if_neg (by omega), if_neg (by omega)]
          apply UInt8.toNat_inj.1; simp; omega
        · cases h
  exact H c a h
def plainMarks : List UInt8 := [45, 46, 95, 126]
def plainB (c : UInt8) : Bool := letterB c || digitB c || plainMarks.contains c
def escOne (v : UInt8) : List UInt8 := if plainB v then [v] else [37, digit (v.toNat / 16), digit (v.toNat % 16)]
def escPair (h l : UInt8) : Option (List UInt8) := match hexV h, hexV l with
  | some a, some b => some (escOne (UInt8.ofNat (16 * a + b)))
  | _, _ => none
def esc : List UInt8 → Option (List UInt8)
  | [] => some []
  | [c] => if c = 37 then none else some [c]
  | [c, d] => if c = 37 then none else (esc [d]).map (c :: ·)
  | c :: h :: l :: r => if c = 37 then (escPair h l).bind fun x => (esc r).map (x ++ ·) else (esc (h :: l :: r)).map (c :: ·)
theorem esc_cons {c : UInt8} (t : List UInt8) (h : c ≠ 37) : esc (c :: t) = (esc t).map (c :: ·) := by
  match t with
  | [] => simp [esc, h]
  | [d] => simp [esc, h]
  | d :: l :: r => simp [esc, h]
theorem esc_short {t : List UInt8} (h : t.length < 2) : esc (37 :: t) = none := by
  match t, h with
  | [], _ => simp [esc]
  | [d], _ => simp [esc]
theorem esc_pair (h l : UInt8) (r : List UInt8) : esc (37 :: h :: l :: r) = (escPair h l).bind fun x => (esc r).map (x ++ ·) := by simp [esc]
theorem escPair_none {h l : UInt8} (hn : hexV h = none ∨ hexV l = none) : escPair h l = none := by
  unfold escPair
  rcases hn with h1 | h1
  · rw [h1]
  · rw [h1]; cases hexV h <;> rfl
theorem escPair_some {h l : UInt8} {a b : Nat} (h1 : hexV h = some a) (h2 : hexV l = some b) : escPair h l = some (escOne (UInt8.ofNat (16 * a + b))) := by
  unfold escPair; rw [h1, h2]
theorem escOne_up {h l : UInt8} {a b : Nat} (h1 : hexV h = some a) (h2 : hexV l = some b) (hp : plainB (UInt8.ofNat (16 * a + b)) = false) : escOne (UInt8.ofNat (16 * a + b)) = [37, upB h, upB l] := by
  have ha := hexV_lt h1
  have hb := hexV_lt h2
  unfold escOne
  rw [if_neg (by rw [hp]; simp), up_digit h1, up_digit h2]
  have e : (UInt8.ofNat (16 * a + b)).toNat = 16 * a + b := by simp; omega
  rw [e, show (16 * a + b) / 16 = a by omega, show (16 * a + b) % 16 = b by omega]
theorem escOne_len (v : UInt8) : (escOne v).length ≤ 3 := by unfold escOne; split <;> simp
/-- After a prefix that is written as acc. -/
def EscAt (s : List UInt8) (i : Nat) (acc : List UInt8) : Prop := esc s = (esc (s.drop i)).map (acc ++ ·) ∧ acc.length ≤ i
theorem EscAt.zero (s : List UInt8) : EscAt s 0 [] := ⟨by simp, Nat.le_refl _⟩
theorem EscAt.last {s acc : List UInt8} {i : Nat} (h : EscAt s i acc) (hi : s.length ≤ i) : esc s = some acc := by
  rw [h.1, List.drop_of_length_le hi]; simp [esc]
theorem EscAt.byte {s acc : List UInt8} {i : Nat} (h : EscAt s i acc) (hi : i < s.length) (hc : s[i] ≠ 37) : EscAt s (i + 1) (acc ++ [s[i]]) := by
  refine ⟨?_, by have := h.2; simp; omega⟩
  rw [h.1, List.drop_eq_getElem_cons hi, esc_cons _ hc]
  cases esc (s.drop (i + 1)) <;> simp
theorem EscAt.short {s acc : List UInt8} {i : Nat} (h : EscAt s i acc) (hi : i < s.length) (hc : s[i] = 37) (hs : s.length ≤ i + 2) : esc s = none := by
  rw [h.1, List.drop_eq_getElem_cons hi, hc, esc_short (by simp; omega)]; rfl
theorem EscAt.drop3 {s : List UInt8} {i : Nat} (hi : i + 2 < s.length) : s.drop i = s[i] :: s[i + 1] :: s[i + 2] :: s.drop (i + 3) := by
  rw [List.drop_eq_getElem_cons (by omega), List.drop_eq_getElem_cons (by omega), List.drop_eq_getElem_cons (by omega)]
theorem EscAt.bad {s acc : List UInt8} {i : Nat} (h : EscAt s i acc) (hi : i + 2 < s.length) (hc : s[i] = 37) (hn : hexV s[i + 1] = none ∨ hexV s[i + 2] = none) : esc s = none := by
  rw [h.1, EscAt.drop3 hi, hc, esc_pair, escPair_none hn]; rfl
theorem EscAt.pair {s acc : List UInt8} {i a b : Nat} (h : EscAt s i acc) (hi : i + 2 < s.length) (hc : s[i] = 37) (h1 : hexV s[i + 1] = some a) (h2 : hexV s[i + 2] = some b) :
    EscAt s (i + 3) (acc ++ escOne (UInt8.ofNat (16 * a + b))) := by
  refine ⟨?_, by have h2 := h.2; have h3 := escOne_len (UInt8.ofNat (16 * a + b)); rw [List.length_append]; omega⟩
  rw [h.1, EscAt.drop3 hi, hc, esc_pair, escPair_some h1 h2]
  cases esc (s.drop (i + 3)) <;> simp
end Go.Proofs.YtokgpmelhmaokaaDoor.NormMath
