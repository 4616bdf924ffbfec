/-
  The plain mathematics of fields: letters, tokens, values, lists. Nothing here speaks of the program.
  norm's mathematics: escapes.
-/
namespace Go.Proofs.YtjpmofnnjdhamaaGreatDoor.HeadMath

def small (c : UInt8) : UInt8 := if 65 ≤ c.toNat ∧ c.toNat ≤ 90 then UInt8.ofNat (c.toNat + 32) else c
theorem small_up {c : UInt8} (h : 65 ≤ c.toNat ∧ c.toNat ≤ 90) : (small c).toNat = c.toNat + 32 := by
  unfold small; rw [if_pos h]; simp; omega
theorem small_other {c : UInt8} (h : ¬ (65 ≤ c.toNat ∧ c.toNat ≤ 90)) : small c = c := by
  unfold small; rw [if_neg h]
def digitB (c : UInt8) : Bool := decide (48 ≤ c.toNat ∧ c.toNat ≤ 57)
def letterB (c : UInt8) : Bool := decide (97 ≤ (small c).toNat ∧ (small c).toNat ≤ 122)
def marks : List UInt8 := [33, 35, 36, 37, 38, 39, 42, 43, 45, 46, 94, 95, 96, 124, 126]
def signB (c : UInt8) : Bool := letterB c || digitB c || marks.contains c
def tokenF (s : List UInt8) : Bool := s.all signB && !s.isEmpty
def blankB (c : UInt8) : Bool := c == 32 || c == 9
def textB (c : UInt8) : Bool := c == 9 || !(decide (c.toNat < 32) || c == 127)
def trimL (s : List UInt8) : List UInt8 := s.dropWhile blankB
def trimF (s : List UInt8) : List UInt8 := trimL (trimL s.reverse).reverse
def valueF (s : List UInt8) : Bool := s.all textB && s == trimF s
def lowF (s : List UInt8) : List UInt8 := s.map small
def sameF (a b : List UInt8) : Bool := lowF a == lowF b

theorem sameF_len {a b : List UInt8} (h : a.length ≠ b.length) : sameF a b = false := by
  unfold sameF lowF
  rw [beq_eq_false_iff_ne]
  intro e
  have := congrArg List.length e
  simp at this
  exact h this

theorem letterB_eq (c : UInt8) : letterB c = (decide (97 ≤ c.toNat ∧ c.toNat ≤ 122) || decide (65 ≤ c.toNat ∧ c.toNat ≤ 90)) := by
  unfold letterB
  by_cases h : 65 ≤ c.toNat ∧ c.toNat ≤ 90
  · rw [small_up h]; simp; omega
  · rw [small_other h]; simp [h]

theorem trimL_head (s : List UInt8) : ∀ c, (trimL s).head? = some c → blankB c = false := by
  induction s with
  | nil => intro c h; simp [trimL] at h
  | cons d s ih =>
    intro c h
    unfold trimL at h
    rw [List.dropWhile_cons] at h
    split at h
    · exact ih c h
    · rename_i hd; simp at h; subst h; simpa using hd
theorem trimL_id {s : List UInt8} (h : ∀ c, s.head? = some c → blankB c = false) : trimL s = s := by
  cases s with
  | nil => rfl
  | cons c s =>
    unfold trimL
    rw [List.dropWhile_cons, h c rfl]; rfl
theorem trimL_suffix (s : List UInt8) : ∃ u, s = u ++ trimL s ∧ ∀ c ∈ u, blankB c = true := by
  induction s with
  | nil => exact ⟨[], rfl, by simp⟩
  | cons d s ih =>
    unfold trimL
    rw [List.dropWhile_cons]
    split
    · rename_i hd
      obtain ⟨u, h1, h2⟩ := ih
      refine ⟨d :: u, ?_, fun c hc => ?_⟩
      · rw [List.cons_append]; exact congrArg (d :: ·) h1
      · rcases List.mem_cons.1 hc with rfl | hc
        · exact hd
        · exact h2 c hc
    · exact ⟨[], rfl, by simp⟩
theorem trimL_len (s : List UInt8) : (trimL s).length ≤ s.length := by
  obtain ⟨u, h, _⟩ := trimL_suffix s
  have := congrArg List.length h
  rw [List.length_append] at this
  omega
theorem trimF_len (s : List UInt8) : (trimF s).length ≤ s.length := by
  unfold trimF
  have h1 := trimL_len (trimL s.reverse).reverse
  have h2 := trimL_len s.reverse
  rw [List.length_reverse] at h1 h2
  omega
/-- No blank at either end. -/
def Bare (s : List UInt8) : Prop := (∀ c, s.head? = some c → blankB c = false) ∧ (∀ c, s.getLast? = some c → blankB c = false)
theorem trimL_blanks (u t : List UInt8) (h : ∀ c ∈ u, blankB c = true) : trimL (u ++ t) = trimL t := by
  induction u with
  | nil => rfl
  | cons d u ih =>
    show trimL (d :: (u ++ t)) = _
    unfold trimL
    rw [List.dropWhile_cons, if_pos (h d List.mem_cons_self)]
    exact ih (fun c hc => h c (List.mem_cons_of_mem _ hc))
theorem trimF_of {u x v : List UInt8} (hu : ∀ c ∈ u, blankB c = true) (hv : ∀ c ∈ v, blankB c = true) (hx : Bare x) : trimF (u ++ x ++ v) = x := by
  unfold trimF
  rw [List.reverse_append, trimL_blanks _ _ (fun c hc => hv c (by simpa using hc)), List.reverse_append]
  cases x with
  | nil =>
    have : trimL u.reverse = [] := by
      have := trimL_blanks u.reverse [] (fun c hc => hu c (by simpa using hc))
      rw [List.append_nil] at this
      rw [this]; rfl
    rw [List.reverse_nil, List.nil_append, this]; rfl
  | cons d r =>
    have h1 : trimL ((d :: r).reverse ++ u.reverse) = (d :: r).reverse ++ u.reverse := by
      apply trimL_id
      intro c hc
      apply hx.2 c
      rw [List.head?_append, List.head?_reverse] at hc
      cases h : (d :: r).getLast? with
      | none => simp at h
      | some e => rw [h] at hc; exact hc
    rw [h1, List.reverse_append, List.reverse_reverse, List.reverse_reverse, trimL_blanks _ _ hu]
    exact trimL_id hx.1
theorem trimF_id {s : List UInt8} (h : Bare s) : trimF s = s := by
  have := trimF_of (u := []) (v := []) (by simp) (by simp) h
  simpa using this
theorem trimF_bare (s : List UInt8) : Bare (trimF s) := by
  unfold trimF
  constructor
  · intro c hc
    exact trimL_head _ c hc
  · intro c hc
    obtain ⟨u, h1, h2⟩ := trimL_suffix (trimL s.reverse).reverse
    have h3 : (trimL s.reverse).reverse.getLast? = some c := by
      rw [h1, List.getLast?_append, hc]; rfl
    rw [List.getLast?_reverse] at h3
    exact trimL_head s.reverse c h3
theorem eq_trimF (s : List UInt8) : s = trimF s ↔ Bare s := by
  constructor
  · intro h; rw [h]; exact trimF_bare s
  · intro h; exact (trimF_id h).symm

end Go.Proofs.YtjpmofnnjdhamaaGreatDoor.HeadMath
namespace Go.Proofs.YtjpmofnnjdhamaaGreatDoor.NormMath
open Go.Proofs.YtjpmofnnjdhamaaGreatDoor.HeadMath

def hexV (c : UInt8) : Option Nat :=
  if 48 ≤ c.toNat ∧ c.toNat ≤ 57 then some (c.toNat - 48) else if 97 ≤ c.toNat ∧ c.toNat ≤ 102 then some (c.toNat - 87) else if 65 ≤ c.toNat ∧ c.toNat ≤ 70 then some (c.toNat - 55) else none
theorem hexV_lt {c : UInt8} {a : Nat} (h : hexV c = some a) : a < 16 := by
  unfold hexV at h
  split at h
  · cases h; omega
  · split at h
    · cases h; omega
    · split at h
      · cases h; omega
      · cases h
def digit (n : Nat) : UInt8 := if n < 10 then UInt8.ofNat (48 + n) else UInt8.ofNat (55 + n)
end Go.Proofs.YtjpmofnnjdhamaaGreatDoor.NormMath
