/-
  Bodies in chunks: plain mathematics of lists of bytes. Nothing here speaks of the program.
-/
import Derived.Test.YtkfnebpooohflaaDoorNormHex
namespace Go.Proofs.YtkfnebpooohflaaDoor.ChunkMath
open Go Go.Proofs.YtkfnebpooohflaaDoor HeadMath NormMath NormS

abbrev Bs := List UInt8
/-- A line to its CR LF: what was read of it, what is left; what is wrong, by its number. -/
def crF (acc : Bs) : Bs → Except Nat (Bs × Bs)
  | [] => .error 92
  | d :: r => if d = 10 then .ok (acc, r) else .error 94
def lineG : Bs → Bs → Except Nat (Bs × Bs)
  | _, [] => .error 92
  | acc, c :: r =>
    if c = 13 then crF acc r
    else if c = 10 ∨ 1024 ≤ acc.length then .error 94 else lineG (acc ++ [c]) r
def plainC (c : UInt8) : Prop := c ≠ 13 ∧ c ≠ 10
theorem lineG_plain {c : UInt8} {acc r : Bs} (h : plainC c) (hl : acc.length < 1024) : lineG acc (c :: r) = lineG (acc ++ [c]) r := by
  rw [lineG, if_neg h.1, if_neg (by rintro (e | e); exact h.2 e; omega)]
theorem lineG_long {c : UInt8} {acc r : Bs} (h : c ≠ 13) (hl : 1024 ≤ acc.length) : lineG acc (c :: r) = .error 94 := by
  rw [lineG, if_neg h, if_pos (.inr hl)]
theorem lineG_lf {acc r : Bs} : lineG acc (10 :: r) = .error 94 := by
  rw [lineG, if_neg (by decide), if_pos (.inl rfl)]
theorem lineG_cr {acc : Bs} : lineG acc [13] = .error 92 := by rw [lineG, if_pos rfl]; rfl
theorem lineG_end {acc r : Bs} : lineG acc (13 :: 10 :: r) = .ok (acc, r) := by rw [lineG, if_pos rfl, crF, if_pos rfl]
theorem lineG_bad {acc r : Bs} {d : UInt8} (h : d ≠ 10) : lineG acc (13 :: d :: r) = .error 94 := by
  rw [lineG, if_pos rfl, crF, if_neg h]
theorem lineG_text : ∀ (t acc r : Bs), (∀ c ∈ t, plainC c) → acc.length + t.length ≤ 1024 → lineG acc (t ++ 13 :: 10 :: r) = .ok (acc ++ t, r)
  | [], acc, r, _, _ => by rw [List.nil_append, lineG_end, List.append_nil]
  | c :: t, acc, r, h, hl => by
    rw [List.cons_append, lineG_plain (h c (by simp)) (by simp at hl; omega), lineG_text t (acc ++ [c]) r (fun x hx => h x (by simp [hx])) (by simp at hl ⊢; omega)]
    simp
/-- What a line takes; and that of less of it nothing is told. -/
theorem lineG_split : ∀ (s acc t r : Bs), lineG acc s = .ok (t, r) → ∃ u, s = u ++ r ∧ 2 ≤ u.length ∧ t.length + 2 = acc.length + u.length ∧ ∀ k, (k < u.length → lineG acc (s.take k) = .error 92) ∧ (u.length ≤ k → lineG acc (s.take k) = .ok (t, r.take (k - u.length)))
  | [], acc, t, r, h => by rw [lineG] at h; cases h
  | c :: s, acc, t, r, h => by
    by_cases h13 : c = 13
    · subst h13
      cases s with
      | nil => rw [lineG_cr] at h; cases h
      | cons d s =>
        by_cases h10 : d = 10
        · subst h10
          rw [lineG_end] at h
          injection h with h
          injection h with h1 h2
          subst h1; subst h2
          refine ⟨[13, 10], rfl, by simp, by simp, fun k => ⟨fun hk => ?_, fun hk => ?_⟩⟩
          · match k, hk with
            | 0, _ => rfl
            | 1, _ => rfl
          · obtain ⟨j, rfl⟩ : ∃ j, k = j + 2 := ⟨k - 2, by simp at hk; omega⟩
            simp only [List.take_succ_cons, List.length_cons, List.length_nil]
            exact lineG_end
        · rw [lineG_bad h10] at h; cases h
    · by_cases hb : c = 10 ∨ 1024 ≤ acc.length
      · rw [lineG, if_neg h13, if_pos hb] at h; cases h
      · have hp : plainC c := ⟨h13, fun e => hb (.inl e)⟩
        have hl : acc.length < 1024 := by omega
        rw [lineG_plain hp hl] at h
        obtain ⟨u, h1, h2, h3, h4⟩ := lineG_split s (acc ++ [c]) t r h
        refine ⟨c :: u, by rw [h1]; rfl, by simp; omega, by simp at h3 ⊢; omega, fun k => ?_⟩
        cases k with
        | zero => exact ⟨fun _ => rfl, fun hk => absurd hk (by simp)⟩
        | succ k =>
          rw [List.take_succ_cons, lineG_plain hp hl]
          refine ⟨fun hk => (h4 k).1 (by simpa using hk), fun hk => ?_⟩
          rw [(h4 k).2 (by simpa using hk)]
          simp
def lineF (s : Bs) : Except Nat (Bs × Bs) := lineG [] s

/-- The number that a row of hexadecimal digits is. -/
def valH (ds : Bs) : Nat := ds.foldl (fun n c => 16 * n + hexN c) 0
theorem valH_snoc (ds : Bs) (c : UInt8) : valH (ds ++ [c]) = 16 * valH ds + hexN c := by unfold valH; rw [List.foldl_append]; rfl
def extB : Bs → Bool
  | [] => true
  | c :: x => c == 59 && x.all textB
def lengthF (t : Bs) : Option Nat :=
  if (t.takeWhile hexB).length = 0 ∨ 8 < (t.takeWhile hexB).length then none
  else if extB (t.dropWhile hexB) then some (valH (t.takeWhile hexB)) else none

/-- The trailers, to the empty line; F: which lines are fields. -/
def trailG (F : Bs → Bool) : Nat → Nat → Bs → Except Nat Bs
  | 0, _, _ => .error 92
  | f + 1, n, s => match lineF s with
    | .error e => .error e
    | .ok (t, r) => if t = [] then .ok r else if F t = false ∨ n = 100 then .error 94 else trailG F f (n + 1) r
/-- A byte that must stand there. -/
def wantF (c : UInt8) : Bs → Except Nat Bs
  | [] => .error 92
  | d :: r => if d = c then .ok r else .error 94
def chunkG (F : Bs → Bool) : Nat → Bs → Bs → Except Nat (Bs × Bs)
  | 0, _, _ => .error 92
  | f + 1, body, s => match lineF s with
    | .error e => .error e
    | .ok (t, r) => match lengthF t with
      | none => .error 94
      | some n =>
        if n = 0 then (match trailG F (r.length + 1) 0 r with
          | .error e => .error e
          | .ok r2 => .ok (body, r2))
        else if 65536 < body.length + n then .error 93
        else if r.length < n then .error 92
        else match wantF 13 (r.drop n) with
          | .error e => .error e
          | .ok r2 => match wantF 10 r2 with
            | .error e => .error e
            | .ok r3 => chunkG F f (body ++ r.take n) r3
def openF (F : Bs → Bool) (b : Bs) : Except Nat (Bs × Bs) := chunkG F (b.length + 1) [] b
end Go.Proofs.YtkfnebpooohflaaDoor.ChunkMath
