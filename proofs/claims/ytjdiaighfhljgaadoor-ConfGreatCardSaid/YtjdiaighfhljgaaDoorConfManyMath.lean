/-
  ConfMany's text: its lines, and what they come to.
-/
import Derived.Test.YtjdiaighfhljgaaDoorConfKnown
namespace Go.Proofs.YtjdiaighfhljgaaDoor
open Go.RowKit GlobMath DateMath

def dig1 (n : Nat) : ByteArray := (⟨#[48, 49, 50, 51, 52, 53, 54, 55, 56, 57]⟩ : ByteArray).extract n (n + 1)
def digB (n : Nat) : ByteArray := if n < 10 then dig1 n else if n < 100 then dig1 (n / 10) ++ dig1 (n % 10) else (dig1 (n / 10 / 10) ++ dig1 (n / 10 % 10)) ++ dig1 (n % 10)
def logL (n : Nat) : ByteArray := ⟨#[108, 111, 103, 32]⟩ ++ digB n
def ruleT (i : Nat) : ByteArray := (⟨#[97, 108, 108, 111, 119, 32, 42, 32, 104]⟩ ++ digB i) ++ ⟨#[32, 47, 42]⟩
def ruleB (i : Nat) (c : Bool) : ByteArray := if c then ruleT i ++ ⟨#[13]⟩ else ruleT i
def textM (g : Nat) (c : Bool) : Nat → ByteArray
  | 0 => (⟨#[108, 111, 103, 32]⟩ ++ digB g) ++ ⟨#[10]⟩
  | k + 1 =>
    let s := ((textM g c k ++ ⟨#[97, 108, 108, 111, 119, 32, 42, 32, 104]⟩) ++ digB k) ++ ⟨#[32, 47, 42]⟩
    (if c then s ++ ⟨#[13]⟩ else s) ++ ⟨#[10]⟩
def linesM (g : Nat) (c : Bool) (k : Nat) : List (ByteArray × Kind) := (logL g, .log g) :: (List.range k).map fun i => (ruleB i c, .rule)
theorem app_data (a b : ByteArray) : (a ++ b).data.toList = a.data.toList ++ b.data.toList := by rw [ByteArray.data_append]; simp
theorem lines_end : ∀ (L : List (List UInt8)), (∀ x ∈ L, ∀ c ∈ x, c ≠ 10) → linesF (L.flatMap (· ++ [10])) = L ++ [[]]
  | [], _ => rfl
  | x :: L, h => by
    rw [List.flatMap_cons, List.append_assoc, List.singleton_append, linesF_app _ (h x (by simp)), lines_end L (fun y hy => h y (by simp [hy]))]
    rfl
theorem log_plain : ∀ n < 300, ∀ c ∈ (logL n).data.toList, c ≠ 10 := by decide +kernel
theorem rule_plain : ∀ i < 60, ∀ b : Bool, ∀ c ∈ (ruleB i b).data.toList, c ≠ 10 := by decide +kernel
theorem dig_size : ∀ n < 1000, (digB n).size ≤ 3 := by decide +kernel
theorem textM_data (g : Nat) (c : Bool) : ∀ k, (textM g c k).data.toList = ((linesM g c k).map (·.1.data.toList)).flatMap (· ++ [10])
  | 0 => by simp [textM, linesM, logL]
  | k + 1 => by
    have e : linesM g c (k + 1) = linesM g c k ++ [(ruleB k c, .rule)] := by simp [linesM, List.range_succ]
    rw [e, List.map_append, List.flatMap_append, ← textM_data g c k]
    cases c <;> simp [textM, ruleB, ruleT]
theorem textM_size (g : Nat) (hg : g < 300) (c : Bool) : ∀ k, k ≤ 60 → (textM g c k).size ≤ 8 + 17 * k
  | 0, _ => by have := dig_size g (by omega); simp [textM, ByteArray.size_append]; show 4 + _ + 1 ≤ 8; omega
  | k + 1, h => by
    have h1 := textM_size g hg c k (by omega)
    have h2 := dig_size k (by omega)
    have e9 : (⟨#[97, 108, 108, 111, 119, 32, 42, 32, 104]⟩ : ByteArray).size = 9 := rfl
    have e3 : (⟨#[32, 47, 42]⟩ : ByteArray).size = 3 := rfl
    have e1 : (⟨#[13]⟩ : ByteArray).size = 1 := rfl
    have e0 : (⟨#[10]⟩ : ByteArray).size = 1 := rfl
    cases c <;> simp only [textM, ByteArray.size_append, e9, e3, e1, e0, if_true, Bool.false_eq_true, if_false] <;> omega
theorem textM_lines (g : Nat) (hg : g < 300) (c : Bool) (k : Nat) (hk : k ≤ 60) : linesF (textM g c k).data.toList = (lineVals (linesM g c k ++ [(emptyB, .quiet)])).map (·.data.toList) := by
  rw [textM_data, lines_end]
  · simp [lineVals]; rfl
  · intro x hx
    obtain ⟨y, hy, rfl⟩ := List.mem_map.1 hx
    rcases List.mem_cons.1 hy with rfl | hy
    · exact log_plain g hg
    · obtain ⟨i, hi, rfl⟩ := List.mem_map.1 hy
      exact rule_plain i (by have := List.mem_range.1 hi; omega) c
def allowA : ByteArray := ⟨#[97, 108, 108, 111, 119]⟩
def starA : ByteArray := ⟨#[42]⟩
def patA : ByteArray := ⟨#[47, 42]⟩
def hostA (i : Nat) : ByteArray := ⟨#[104]⟩ ++ digB i
theorem log_words : ∀ n < 300, (wordsL (trimR (logL n))).map (·.data.toList) = [logB.data.toList, (digB n).data.toList] := by decide +kernel
theorem log_num : ∀ n < 300, numF (digB n).data.toList 9 = some n := by decide +kernel
theorem rule_words : ∀ i < 60, ∀ b : Bool, (wordsL (trimR (ruleB i b))).map (·.data.toList) = [allowA.data.toList, starA.data.toList, (hostA i).data.toList, patA.data.toList] := by decide +kernel
theorem host_valid : ∀ i < 60, validF (hostA i).data.toList = true := by decide +kernel
theorem log_kind (n : Nat) (h : n < 300) : KindOf (trimR (logL n)) (.log n) := ⟨digB n, map_inj (log_words n h), log_num n h⟩
theorem rule_kind (i : Nat) (h : i < 60) (b : Bool) : KindOf (trimR (ruleB i b)) .rule := by
  have hw : wordsL (trimR (ruleB i b)) = [allowA, starA, hostA i, patA] := map_inj (rule_words i h b)
  refine ⟨allowA, [starA, hostA i, patA], hw, ⟨⟨by decide, by decide⟩, by kernel_rfl, by kernel_rfl, by kernel_rfl⟩, true, starA, hostA i, patA, ?_⟩
  rw [hw]
  exact ruleL_good (by kernel_rfl) (by kernel_rfl) (host_valid i h) (by kernel_rfl)
def rulesK (k : Nat) : List Kind := List.replicate k .rule ++ [.quiet]
theorem run_rules : ∀ (k : Nat) (c : ConfS) (i : Nat), c.n ≤ 50 → runC c i (rulesK k) = if c.n + k ≤ 50 then .inl ({ c with n := c.n + k }, i + k + 1) else .inr (i + (50 - c.n) + 1)
  | 0, c, i, h => by
    rw [if_pos (by omega)]
    show runC c i [.quiet] = _
    rw [runC_some (d := c) rfl, runC]
    rfl
  | k + 1, c, i, h => by
    show runC c i (.rule :: rulesK k) = _
    by_cases h50 : c.n < 50
    · rw [runC_some (show stepC c .rule = some { c with n := c.n + 1 } from if_pos h50), run_rules k _ (i + 1) (by show c.n + 1 ≤ 50; omega)]
      show (if c.n + 1 + k ≤ 50 then _ else _) = _
      by_cases hh : c.n + (k + 1) ≤ 50
      · rw [if_pos (by omega), if_pos hh]
        show Sum.inl (({ c with n := c.n + 1 + k } : ConfS), i + 1 + k + 1) = _
        rw [show c.n + 1 + k = c.n + (k + 1) by omega, show i + 1 + k + 1 = i + (k + 1) + 1 by omega]
      · rw [if_neg (by omega), if_neg hh]
        show Sum.inr (i + 1 + (50 - (c.n + 1)) + 1) = _
        rw [show i + 1 + (50 - (c.n + 1)) + 1 = i + (50 - c.n) + 1 by omega]
    · rw [runC_none (show stepC c .rule = none from if_neg h50), if_neg (by omega)]
      rw [show i + (50 - c.n) + 1 = i + 1 by omega]
theorem linesM_kinds (g : Nat) (c : Bool) (k : Nat) : (linesM g c k ++ [(emptyB, Kind.quiet)]).map (fun x : ByteArray × Kind => x.2) = .log g :: rulesK k := by
  have : (List.range k).map ((fun x : ByteArray × Kind => x.2) ∘ fun i => (ruleB i c, Kind.rule)) = List.replicate k .rule := by
    apply List.ext_getElem <;> simp
  simp [linesM, rulesK, this]
/-- What the law's text comes to. -/
def manyR (g k : Nat) : ConfS × Nat ⊕ Nat := if g ≤ 200 then (if k ≤ 50 then .inl (⟨k, true, consoleB, g⟩, k + 2) else .inr 52) else .inr 1
theorem many_run (g : Nat) (c : Bool) (k : Nat) : runC startC 0 ((linesM g c k ++ [(emptyB, Kind.quiet)]).map (fun x : ByteArray × Kind => x.2)) = manyR g k := by
  rw [linesM_kinds]
  unfold manyR
  by_cases hg : g ≤ 200
  · rw [if_pos hg, runC_some (show stepC startC (.log g) = some ⟨0, true, consoleB, g⟩ from if_pos hg), run_rules k _ _ (Nat.zero_le _)]
    show (if 0 + k ≤ 50 then _ else _) = _
    by_cases hk : k ≤ 50
    · rw [if_pos (by omega), if_pos hk]
      show Sum.inl ((⟨0 + k, true, consoleB, g⟩ : ConfS), 0 + 1 + k + 1) = _
      rw [show 0 + 1 + k + 1 = k + 2 by omega, Nat.zero_add]
    · rw [if_neg (by omega), if_neg hk]
      rfl
  · rw [if_neg hg, runC_none (show stepC startC (.log g) = none from if_neg hg)]
theorem many_parse (g : Nat) (hg : g < 300) (c : Bool) (k : Nat) (hk : k ≤ 60) (m : Int) (w : World) (hm : w.cell? ⟨0, 0, none⟩ = some (.int .i64 m)) : Calls Tryd.prog 7 #[.string (textM g c k)] w (ConfPost (manyR g k) w) := by
  rw [← many_run g c k]
  have hz := textM_size g hg c k hk
  have key : ∀ x ∈ linesM g c k ++ [(emptyB, .quiet)], x.1.size ≤ 1000000 ∧ KindOf (trimR x.1) x.2 := by
    intro x hx
    rcases List.mem_append.1 hx with hx | hx
    · rcases List.mem_cons.1 hx with rfl | hx
      · have := dig_size g (by omega)
        refine ⟨?_, log_kind g hg⟩
        simp only [logL, ByteArray.size_append]
        show 4 + _ ≤ _
        omega
      · obtain ⟨i, hi, rfl⟩ := List.mem_map.1 hx
        have hi2 := List.mem_range.1 hi
        have := dig_size i (by omega)
        refine ⟨?_, rule_kind i (by omega) c⟩
        have e9 : (⟨#[97, 108, 108, 111, 119, 32, 42, 32, 104]⟩ : ByteArray).size = 9 := rfl
        have e3 : (⟨#[32, 47, 42]⟩ : ByteArray).size = 3 := rfl
        have e1 : (⟨#[13]⟩ : ByteArray).size = 1 := rfl
        cases c <;> simp only [ruleB, ruleT, ByteArray.size_append, e9, e3, e1, if_true, Bool.false_eq_true, if_false] <;> omega
    · obtain rfl : x = (emptyB, .quiet) := by simpa using hx
      exact ⟨by decide, kind_empty⟩
  exact confParse_any _ _ m w (by omega) hm (textM_lines g hg c k hk) (fun x hx => (key x hx).1) (by simp [linesM]; omega) (fun x hx => (key x hx).2)
end Go.Proofs.YtjdiaighfhljgaaDoor
