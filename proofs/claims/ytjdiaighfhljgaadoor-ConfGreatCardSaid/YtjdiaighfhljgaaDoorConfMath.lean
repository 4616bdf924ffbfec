/-
  conf: a text's lines, what each kind of them says.
-/
import Derived.Test.YtjdiaighfhljgaaDoorRule
import Derived.Test.YtjdiaighfhljgaaDoorWordsList
import Derived.Test.YtjdiaighfhljgaaDoorDateNumber
import Derived.Lib.Split
import Derived.Lib.SplitLaws
namespace Go.Proofs.YtjdiaighfhljgaaDoor
open Go Go.RowKit

def linesF : List UInt8 → List (List UInt8)
  | [] => [[]]
  | c :: t => if c = 10 then [] :: linesF t else match linesF t with
    | [] => [[c]]
    | x :: r => (c :: x) :: r
theorem linesF_ne (l : List UInt8) : linesF l ≠ [] := by
  cases l with
  | nil => simp [linesF]
  | cons c t =>
    unfold linesF
    by_cases h : c = 10
    · rw [if_pos h]; simp
    · rw [if_neg h]; cases linesF t <;> simp
theorem linesF_end (t : List UInt8) : linesF (10 :: t) = [] :: linesF t := by rw [linesF]; simp
theorem linesF_other {c : UInt8} {t : List UInt8} {x : (List UInt8)} {r : List (List UInt8)} (h : c ≠ 10) (ht : linesF t = x :: r) : linesF (c :: t) = (c :: x) :: r := by rw [linesF, if_neg h, ht]
theorem linesF_none : ∀ {a : List UInt8}, (∀ c ∈ a, c ≠ 10) → linesF a = [a]
  | [], _ => rfl
  | c :: t, h => linesF_other (h c (by simp)) (linesF_none (fun d hd => h d (by simp [hd])))
theorem linesF_app : ∀ {a : List UInt8} (b : List UInt8), (∀ c ∈ a, c ≠ 10) → linesF (a ++ 10 :: b) = a :: linesF b
  | [], b, _ => linesF_end b
  | c :: t, b, h => linesF_other (h c (by simp)) (linesF_app b (fun d hd => h d (by simp [hd])))
theorem splitK_lines : ∀ (l : List UInt8) (k : Nat), l.count 10 ≤ k → Lib.splitK [10] 0 k l = linesF l
  | [], k, _ => by cases k <;> simp [Lib.splitK, linesF, Lib.index]
  | c :: t, 0, h => by
    have h0 : (c :: t).count 10 = 0 := by omega
    have hn : ∀ d ∈ c :: t, d ≠ 10 := fun d hd e => by subst e; exact absurd (List.count_pos_iff.2 hd) (by omega)
    rw [linesF_none hn]; rfl
  | c :: t, k + 1, h => by
    by_cases hc : c = 10
    · subst hc
      have hi : Lib.index (10 :: t) [10] = 0 := by rw [Lib.index_one, Lib.indexByte]; simp
      rw [linesF_end, Lib.splitK, hi, if_neg (by decide)]
      have := splitK_lines t k (by rw [List.count_cons] at h; simp at h; omega)
      simp [this]
    · have hct : t.count 10 ≤ k + 1 := by rw [List.count_cons] at h; omega
      have ih := splitK_lines t (k + 1) hct
      have hi : Lib.index (c :: t) [10] = if Lib.index t [10] == -1 then -1 else Lib.index t [10] + 1 := by
        rw [Lib.index_one, Lib.index_one, Lib.indexByte]; simp [hc]
      by_cases hm : Lib.index t [10] = -1
      · rw [Lib.splitK, if_pos (by simp [hm])] at ih
        rw [linesF_other hc ih.symm, Lib.splitK, hi, hm]; simp
      · obtain ⟨j, hj⟩ : ∃ j : Nat, Lib.index t [10] = j := ⟨(Lib.index t [10]).toNat, by have := Lib.index_ge t [10]; omega⟩
        rw [Lib.splitK, if_neg (by simpa using hm), hj] at ih
        rw [linesF_other hc ih.symm, Lib.splitK, hi, hj, if_neg (by simp; omega)]
        have e : ((if ((j : Int) == -1) = true then (-1 : Int) else (j : Int) + 1)).toNat = j + 1 := by
          rw [if_neg (by simp)]; omega
        rw [e]
        simp
theorem split_lines (s : ByteArray) : (Lib.splitB ⟨#[10]⟩ 0 (Lib.countB s ⟨#[10]⟩) s).map (·.data.toList) = linesF s.data.toList := by
  rw [Lib.splitB_data]
  exact splitK_lines _ _ (by unfold Lib.countB; exact Nat.le_of_eq (Lib.count_one 10 _).symm)

structure ConfS where
  n : Nat
  ranges : Bool
  console : ByteArray
  log : Nat
inductive Kind
  | quiet
  | off
  | log (n : Nat)
  | rule
  | bad
def stepC (c : ConfS) : Kind → Option ConfS
  | .quiet => some c
  | .off => some { c with ranges := false }
  | .log n => if n ≤ 200 then some { c with log := n } else none
  | .rule => if c.n < 50 then some { c with n := c.n + 1 } else none
  | .bad => none
def rangesB : ByteArray := ⟨#[114, 97, 110, 103, 101, 115]⟩
def consoleB : ByteArray := ⟨#[99, 111, 110, 115, 111, 108, 101]⟩
def logB : ByteArray := ⟨#[108, 111, 103]⟩
def offB : ByteArray := ⟨#[111, 102, 102]⟩
def Other (x : ByteArray) : Prop := (∃ h : 0 < x.size, ¬ x[0] = 35) ∧ (x.data.toList == rangesB.data.toList) = false ∧ (x.data.toList == consoleB.data.toList) = false ∧ (x.data.toList == logB.data.toList) = false
def KindOf (s : ByteArray) : Kind → Prop
  | .quiet => wordsL s = [] ∨ ∃ x r, wordsL s = x :: r ∧ ∃ h : 0 < x.size, x[0] = 35
  | .off => wordsL s = [rangesB, offB]
  | .log n => ∃ d, wordsL s = [logB, d] ∧ DateMath.numF d.data.toList 9 = some n
  | .rule => ∃ x r, wordsL s = x :: r ∧ Other x ∧ ∃ a m h p, ruleL (wordsL s) = .tuple #[ruleA a m h p, .int .i64 0]
  | .bad => ∃ x r, wordsL s = x :: r ∧ Other x ∧ ruleL (wordsL s) = noRule
/-- What the lines come to: settings, or the number of the line that is none. -/
def runC : ConfS → Nat → List Kind → ConfS × Nat ⊕ Nat
  | c, i, [] => .inl (c, i)
  | c, i, k :: r => match stepC c k with
    | some d => runC d (i + 1) r
    | none => .inr (i + 1)
def startC : ConfS := ⟨0, true, consoleB, 100⟩
end Go.Proofs.YtjdiaighfhljgaaDoor
