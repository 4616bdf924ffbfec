/-
  Names in order, each once: sorted and compacted, or put in one by one, they are the same list.
-/
import Derived.Sort.Walk0
import Derived.Lib.SlicesCompact
import Derived.Lib.Bytealg
import Derived.Shelf.SlSortCmp.Whole1
namespace Go.Proofs.YtgfinhkplijhbaaGreatDoor.VaryMath
open Go.Sort

abbrev Bs := List UInt8
theorem cmp_lt : ∀ a b : Bs, Lib.compareBytes a b < 0 ↔ a < b
  | [], [] => by simp [Lib.compareBytes]
  | [], _ :: _ => by simp [Lib.compareBytes]
  | _ :: _, [] => by simp [Lib.compareBytes]
  | a :: x, b :: y => by
    have ih := cmp_lt x y
    unfold Lib.compareBytes
    rw [List.cons_lt_cons_iff]
    by_cases h1 : a < b
    · simp [h1]
    · by_cases h2 : b < a
      · have : a ≠ b := fun e => by subst e; exact h1 h2
        simp [h1, h2, this]
      · have e : a = b := by
          apply UInt8.le_antisymm
          · exact UInt8.not_lt.1 h2
          · exact UInt8.not_lt.1 h1
        subst e
        simp [h1, ih]
theorem lt_of (a b : Bs) : ltOf Lib.compareBytes a b = decide (a < b) := by
  unfold ltOf
  exact decide_eq_decide.2 (cmp_lt a b)
theorem tri {a b : Bs} (h1 : ¬ a < b) (h2 : ¬ b < a) : a = b := List.le_antisymm (List.not_lt.1 h2) (List.not_lt.1 h1)
theorem swo : SWO (ltOf Lib.compareBytes) where
  irrefl x := by rw [lt_of]; exact decide_eq_false (List.lt_irrefl x)
  trans x y z h1 h2 := by
    rw [lt_of, decide_eq_true_iff] at *
    exact List.lt_trans h1 h2
  ntrans x y z h1 h2 := by
    rw [lt_of, decide_eq_false_iff_not] at *
    exact fun h => List.not_lt.2 (List.le_trans (List.not_lt.1 h2) (List.not_lt.1 h1)) h
theorem total (x y : Bs) (h1 : ltOf Lib.compareBytes x y = false) (h2 : ltOf Lib.compareBytes y x = false) : x = y := by
  rw [lt_of, decide_eq_false_iff_not] at h1 h2
  exact tri h1 h2
def Asc (l : List Bs) : Prop := l.Pairwise (· < ·)
theorem asc_unique : ∀ {l m : List Bs}, Asc l → Asc m → (∀ x, x ∈ l ↔ x ∈ m) → l = m
  | [], [], _, _, _ => rfl
  | [], b :: m, _, _, h => absurd ((h b).2 (by simp)) (by simp)
  | a :: l, [], _, _, h => absurd ((h a).1 (by simp)) (by simp)
  | a :: l, b :: m, hl, hm, h => by
    obtain ⟨ha, hl'⟩ := List.pairwise_cons.1 hl
    obtain ⟨hb, hm'⟩ := List.pairwise_cons.1 hm
    have e : a = b := by
      rcases List.mem_cons.1 ((h a).1 (by simp)) with h1 | h1
      · exact h1
      · rcases List.mem_cons.1 ((h b).2 (by simp)) with h2 | h2
        · exact h2.symm
        · exact absurd (List.lt_trans (hb a h1) (ha b h2)) (List.lt_irrefl b)
    subst e
    congr 1
    refine asc_unique hl' hm' fun x => ⟨fun hx => ?_, fun hx => ?_⟩
    · rcases List.mem_cons.1 ((h x).1 (List.mem_cons_of_mem _ hx)) with h1 | h1
      · subst h1; exact absurd (ha x hx) (List.lt_irrefl x)
      · exact h1
    · rcases List.mem_cons.1 ((h x).2 (List.mem_cons_of_mem _ hx)) with h1 | h1
      · subst h1; exact absurd (hb x hx) (List.lt_irrefl x)
      · exact h1
/-- A name put into its place, if it isn't there. -/
def insL (n : Bs) : List Bs → List Bs
  | [] => [n]
  | x :: r => if x < n then x :: insL n r else if x = n then x :: r else n :: x :: r
theorem ins_mem (n : Bs) : ∀ (l : List Bs) (x : Bs), x ∈ insL n l ↔ x = n ∨ x ∈ l
  | [], x => by simp [insL]
  | y :: r, x => by
    unfold insL
    split
    · rw [List.mem_cons, ins_mem n r x, List.mem_cons]
      constructor
      · rintro (h | h | h)
        · exact .inr (.inl h)
        · exact .inl h
        · exact .inr (.inr h)
      · rintro (h | h | h)
        · exact .inr (.inl h)
        · exact .inl h
        · exact .inr (.inr h)
    · split
      · rename_i h
        subst h
        rw [List.mem_cons]
        constructor
        · rintro (h | h)
          · exact .inl h
          · exact .inr (.inr h)
        · rintro (h | h | h)
          · exact .inl h
          · exact .inl h
          · exact .inr h
      · rw [List.mem_cons]
theorem ins_asc (n : Bs) : ∀ (l : List Bs), Asc l → Asc (insL n l)
  | [], _ => by unfold insL Asc; simp
  | y :: r, h => by
    obtain ⟨h1, h2⟩ := List.pairwise_cons.1 h
    unfold insL
    split
    · rename_i hlt
      refine List.pairwise_cons.2 ⟨fun x hx => ?_, ins_asc n r h2⟩
      rcases (ins_mem n r x).1 hx with e | e
      · rw [e]; exact hlt
      · exact h1 x e
    · split
      · exact h
      · rename_i hn hne
        have hlt : n < y := by
          rcases Decidable.em (n < y) with h | h
          · exact h
          · exact absurd (tri hn h) hne
        refine List.pairwise_cons.2 ⟨fun x hx => ?_, h⟩
        rcases List.mem_cons.1 hx with e | e
        · rw [e]; exact hlt
        · exact List.lt_trans hlt (h1 x e)
def onceL (l : List Bs) : List Bs := l.foldl (fun out n => insL n out) []
theorem fold_mem : ∀ (l out : List Bs) (x : Bs), x ∈ l.foldl (fun out n => insL n out) out ↔ x ∈ l ∨ x ∈ out
  | [], out, x => by simp
  | n :: l, out, x => by
    rw [List.foldl_cons, fold_mem l (insL n out) x, ins_mem, List.mem_cons]
    constructor
    · rintro (h | h | h)
      · exact .inl (.inr h)
      · exact .inl (.inl h)
      · exact .inr h
    · rintro ((h | h) | h)
      · exact .inr (.inl h)
      · exact .inl h
      · exact .inr (.inr h)
theorem fold_asc : ∀ (l out : List Bs), Asc out → Asc (l.foldl (fun out n => insL n out) out)
  | [], _, h => h
  | n :: l, out, h => fold_asc l (insL n out) (ins_asc n out h)
theorem once_mem (l : List Bs) (x : Bs) : x ∈ onceL l ↔ x ∈ l := by unfold onceL; rw [fold_mem]; simp
theorem once_asc (l : List Bs) : Asc (onceL l) := fold_asc l [] List.Pairwise.nil
theorem once_len (l : List Bs) : (onceL l).length ≤ l.length := by
  have h : ∀ (l out : List Bs), (l.foldl (fun out n => insL n out) out).length ≤ out.length + l.length := by
    intro l
    induction l with
    | nil => intro out; simp
    | cons n l ih =>
      intro out
      have h1 := ih (insL n out)
      have h2 : ∀ o : List Bs, (insL n o).length ≤ o.length + 1 := by
        intro o
        induction o with
        | nil => simp [insL]
        | cons y r ih2 =>
          unfold insL
          split
          · simp only [List.length_cons]; omega
          · split <;> simp
      have h3 := h2 out
      rw [List.foldl_cons, List.length_cons]
      omega
  have := h l []
  simpa [onceL] using this
/-- The sort's order. -/
def leB (x y : Bs) : Bool := !ltOf Lib.compareBytes y x
theorem sorted_le (l : List Bs) : (l.mergeSort leB).Pairwise fun a b => ¬ b < a := by
  have h := List.pairwise_mergeSort (le := leB) (fun a b c h1 h2 => by
    unfold leB at *
    rw [lt_of] at *
    simp only [Bool.not_eq_true', decide_eq_false_iff_not] at *
    exact List.not_lt.2 (List.le_trans (List.not_lt.1 h1) (List.not_lt.1 h2))) (fun a b => by
    unfold leB
    rw [lt_of, lt_of]
    by_cases h : a < b
    · have h2 : ¬ b < a := fun h2 => List.lt_irrefl a (List.lt_trans h h2)
      simp [h2]
    · simp [h]) l
  refine h.imp fun {a b} hab => ?_
  unfold leB at hab
  rw [lt_of] at hab
  simpa using hab
theorem get_of (l : List Bs) (i : Nat) (h : i < l.length) : l.toArray[i]! = l[i] := by
  rw [getElem!_pos l.toArray i (by simpa using h)]; simp
theorem compact_mem (l : List Bs) (x : Bs) : x ∈ Lib.compact l ↔ x ∈ l := by
  unfold Lib.compact Lib.compactUpTo
  constructor
  · intro h
    obtain ⟨j, hj, rfl⟩ := List.mem_map.1 h
    have hj' : j < l.length := List.mem_range.1 (List.mem_filter.1 hj).1
    rw [get_of l j hj']
    exact List.getElem_mem hj'
  · intro h
    obtain ⟨j, hj, rfl⟩ := List.getElem_of_mem h
    induction j with
    | zero => exact List.mem_map.2 ⟨0, List.mem_filter.2 ⟨List.mem_range.2 hj, by simp [Lib.keeps]⟩, get_of l 0 hj⟩
    | succ j ih =>
      by_cases e : l[j + 1] = l[j]
      · rw [e]
        exact ih (by omega) (List.getElem_mem _)
      · refine List.mem_map.2 ⟨j + 1, List.mem_filter.2 ⟨List.mem_range.2 hj, ?_⟩, get_of l _ hj⟩
        unfold Lib.keeps
        rw [get_of l _ hj, show j + 1 - 1 = j by omega, get_of l j (by omega)]
        exact decide_eq_true (.inr e)
theorem compact_asc (l : List Bs) (h : l.Pairwise fun a b => ¬ b < a) : Asc (Lib.compact l) := by
  unfold Lib.compact Lib.compactUpTo Asc
  rw [List.pairwise_map]
  have hp : ((List.range l.length).filter (Lib.keeps l.toArray)).Pairwise fun a b => a < b ∧ a < l.length ∧ b < l.length ∧ Lib.keeps l.toArray b = true := by
    have h1 : ((List.range l.length).filter (Lib.keeps l.toArray)).Pairwise (· < ·) := List.Pairwise.filter _ List.pairwise_lt_range
    refine List.Pairwise.imp_of_mem ?_ h1
    intro a b ha hb hab
    have ha' := List.mem_filter.1 ha
    have hb' := List.mem_filter.1 hb
    exact ⟨hab, List.mem_range.1 ha'.1, List.mem_range.1 hb'.1, hb'.2⟩
  refine hp.imp fun {a b} ⟨hab, ha, hb, hk⟩ => ?_
  rw [get_of l a ha, get_of l b hb]
  unfold Lib.keeps at hk
  rw [decide_eq_true_iff, get_of l b hb, get_of l (b - 1) (by omega)] at hk
  have hne : l[b] ≠ l[b - 1] := by
    rcases hk with e | e
    · omega
    · exact e
  rw [List.pairwise_iff_getElem] at h
  have h1 : ¬ l[b] < l[b - 1] := h (b - 1) b (by omega) hb (by omega)
  have h2 : l[b - 1] < l[b] := by
    rcases Decidable.em (l[b - 1] < l[b]) with h' | h'
    · exact h'
    · exact absurd (tri h1 h') hne
  by_cases e : a = b - 1
  · subst e; exact h2
  · have h3 : ¬ l[b - 1] < l[a] := h a (b - 1) ha (by omega) (by omega)
    exact List.lt_of_le_of_lt (List.not_lt.1 h3) h2
/-- Sorted and compacted: the same as put in one by one. -/
theorem compact_sorted (l : List Bs) : Lib.compact (l.mergeSort leB) = onceL l :=
  asc_unique (compact_asc _ (sorted_le l)) (once_asc l) fun x => by
    rw [compact_mem, once_mem]
    exact (List.mergeSort_perm l leB).mem_iff
end Go.Proofs.YtgfinhkplijhbaaGreatDoor.VaryMath
