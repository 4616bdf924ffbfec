/-
  Parts put together by commas, and told one by one: the mathematics.
-/
import Derived.Test.YtckhjhgddnjfpaaDoorHeadHops
namespace Go.Proofs.YtckhjhgddnjfpaaDoor
open Go.RowKit HeadMath

theorem endF_plain : ∀ (l r : List UInt8), (∀ c ∈ l, c ≠ 34 ∧ c ≠ 44) → endF false false (l ++ r) = l.length + endF false false r
  | [], r, _ => by simp
  | c :: l, r, h => by
    have h1 := h c (List.mem_cons_self ..)
    have ih := endF_plain l r (fun d hd => h d (List.mem_cons_of_mem _ hd))
    rw [List.cons_append]
    simp only [endF, if_neg h1.1, if_neg h1.2, List.length_cons]
    omega
theorem endF_body : ∀ (l r : List UInt8), (∀ c ∈ l, c ≠ 34 ∧ c ≠ 92) → endF true false (l ++ r) = l.length + endF true false r
  | [], r, _ => by simp
  | c :: l, r, h => by
    have h1 := h c (List.mem_cons_self ..)
    have ih := endF_body l r (fun d hd => h d (List.mem_cons_of_mem _ hd))
    rw [List.cons_append]
    simp only [endF, if_neg h1.1, if_neg h1.2, List.length_cons]
    omega
def quoted (b : List UInt8) : List UInt8 := 34 :: (b ++ [34])
theorem endF_quoted (b r : List UInt8) (h : ∀ c ∈ b, c ≠ 34 ∧ c ≠ 92) : endF false false (quoted b ++ r) = (quoted b).length + endF false false r := by
  unfold quoted
  rw [List.cons_append, List.append_assoc]
  simp only [endF, if_true]
  rw [endF_body b _ h, List.cons_append, List.nil_append]
  simp only [endF, if_neg (show ¬ (34 : UInt8) = 92 by decide), if_true, List.length_cons, List.length_append, List.length_nil]
  omega
/-- No comma is open in t. -/
def Closed (t : List UInt8) : Prop := ∀ r, endF false false (t ++ r) = t.length + endF false false r
theorem Closed.plain {l : List UInt8} (h : ∀ c ∈ l, c ≠ 34 ∧ c ≠ 44) : Closed l := fun r => endF_plain l r h
theorem Closed.quoted {b : List UInt8} (h : ∀ c ∈ b, c ≠ 34 ∧ c ≠ 92) : Closed (quoted b) := fun r => endF_quoted b r h
theorem Closed.append {s t : List UInt8} (h : Closed s) (k : Closed t) : Closed (s ++ t) := fun r => by
  rw [List.append_assoc, h, k, List.length_append]; omega
abbrev arr (l : List UInt8) : ByteArray := ⟨l.toArray⟩
theorem told_nil {p : ByteArray} (h : p.data.toList = []) : told p = [] := by
  unfold told
  rw [if_pos (by rw [← size_list, h]; rfl)]
theorem parts_step (t rest more : List UInt8) (hc : Closed t) (hr : (rest = [] ∧ more = []) ∨ rest = 44 :: more) : partsF (arr (t ++ rest)) = told (arr (trimF t)) ++ partsF (arr more) := by
  have hl : (arr (t ++ rest)).data.toList = t ++ rest := rfl
  have he : endOf (arr (t ++ rest)) = t.length := by
    unfold endOf
    rw [hl, hc]
    rcases hr with ⟨rfl, _⟩ | rfl
    · rfl
    · simp only [endF, if_neg (show ¬ (44 : UInt8) = 34 by decide), if_true]; omega
  have hz : (arr (t ++ rest)).size = t.length + rest.length := by rw [← size_list, hl, List.length_append]
  by_cases h0 : (arr (t ++ rest)).size = 0
  · have ht : t = [] := List.eq_nil_of_length_eq_zero (by omega)
    have hr0 : rest = [] := List.eq_nil_of_length_eq_zero (by omega)
    subst ht; subst hr0
    rcases hr with ⟨_, rfl⟩ | h
    · rw [partsF_nil h0, partsF_nil rfl, told_nil rfl]; rfl
    · cases h
  · have hp : pieceOf (arr (t ++ rest)) = arr (trimF t) := by
      unfold pieceOf
      rw [he]
      have : ((arr (t ++ rest)).extract 0 t.length).data.toList = t := by
        rw [Lib.extract_data, hl, List.drop_zero, Nat.sub_zero, List.take_append_of_le_length (Nat.le_refl _), List.take_of_length_le (Nat.le_refl _)]
      rw [this]
    have hrest : restOf (arr (t ++ rest)) = arr more := by
      apply data_inj
      unfold restOf
      rw [Lib.extract_to_end, he, hl, hz]
      show _ = more
      rcases hr with ⟨rfl, rfl⟩ | rfl
      · rw [List.drop_eq_nil_of_le (by simp)]
      · rw [Nat.min_eq_left (by simp), List.drop_append, List.drop_eq_nil_of_le (by omega), show t.length + 1 - t.length = 1 by omega]
        rfl
    rw [partsF, dif_neg h0, hp, hrest]
    rfl
/-- A segment: blanks, what is quoted, and perhaps two empty parts behind. -/
structure Seg where
  blanks : List UInt8
  body : List UInt8
  more : Bool
def Seg.text (s : Seg) : List UInt8 := s.blanks ++ quoted s.body ++ (if s.more then [32, 44, 32, 44] else [])
def Seg.ok (s : Seg) : Prop := (∀ c ∈ s.blanks, blankB c = true) ∧ ∀ c ∈ s.body, c ≠ 34 ∧ c ≠ 92
theorem blank_not {c : UInt8} (h : blankB c = true) : c ≠ 34 ∧ c ≠ 44 := by
  constructor <;> (intro e; rw [e] at h; revert h; decide)
theorem quoted_bare (b : List UInt8) : Bare (quoted b) := by
  constructor
  · intro c hc
    simp [quoted] at hc
    subst hc; decide
  · intro c hc
    have : (quoted b).getLast? = some 34 := by unfold quoted; rw [← List.cons_append, List.getLast?_append]; rfl
    rw [this] at hc
    cases hc; decide
theorem trim_seg (u b v : List UInt8) (hu : ∀ c ∈ u, blankB c = true) (hv : ∀ c ∈ v, blankB c = true) : trimF (u ++ quoted b ++ v) = quoted b := trimF_of hu hv (quoted_bare b)
theorem told_quoted (b : List UInt8) : told (arr (quoted b)) = [arr (quoted b)] := by
  unfold told
  rw [if_neg]
  show ¬ (quoted b).toArray.size = 0
  simp [quoted]
theorem parts_seg (s : Seg) (h : s.ok) (rest more : List UInt8) (hr : (rest = [] ∧ more = []) ∨ rest = 44 :: more) : partsF (arr (s.text ++ rest)) = arr (quoted s.body) :: partsF (arr more) := by
  obtain ⟨h1, h2⟩ := h
  have c1 : Closed (s.blanks ++ quoted s.body) := (Closed.plain (fun c hc => blank_not (h1 c hc))).append (Closed.quoted h2)
  unfold Seg.text
  cases s.more with
  | false =>
    have := parts_step (s.blanks ++ quoted s.body) rest more c1 hr
    have e := trim_seg s.blanks s.body [] h1 (by simp)
    rw [List.append_nil] at e
    simp only [Bool.false_eq_true, if_false, List.append_nil]
    rw [this, e, told_quoted]; rfl
  | true =>
    have e1 : s.blanks ++ quoted s.body ++ [32, 44, 32, 44] ++ rest = (s.blanks ++ quoted s.body ++ [32]) ++ (44 :: ([32] ++ (44 :: rest))) := by simp
    have c2 : Closed [32] := Closed.plain (by decide)
    have e := trim_seg s.blanks s.body [32] h1 (by decide)
    have s1 := parts_step (s.blanks ++ quoted s.body ++ [32]) (44 :: ([32] ++ (44 :: rest))) ([32] ++ (44 :: rest)) (c1.append c2) (.inr rfl)
    have s2 := parts_step [32] (44 :: rest) rest c2 (.inr rfl)
    have s3 := parts_step [] rest more (Closed.plain (by simp)) hr
    rw [List.nil_append] at s3
    simp only [if_true]
    rw [e1, s1, e, told_quoted, s2, told_nil (show (arr (trimF [32])).data.toList = [] from by decide), s3, told_nil (show (arr (trimF [])).data.toList = [] from by decide)]
    rfl
def tailS : List Seg → List UInt8
  | [] => []
  | s :: l => 44 :: (s.text ++ tailS l)
def joinS : List Seg → List UInt8
  | [] => []
  | s :: l => s.text ++ tailS l
theorem parts_join : ∀ (l : List Seg), (∀ s ∈ l, s.ok) → partsF (arr (joinS l)) = l.map fun s => arr (quoted s.body)
  | [], _ => partsF_nil rfl
  | s :: l, h => by
    have ih := parts_join l (fun t ht => h t (List.mem_cons_of_mem _ ht))
    have hs := h s (List.mem_cons_self ..)
    rw [List.map_cons, ← ih]
    unfold joinS
    refine parts_seg s hs (tailS l) (joinS l) ?_
    cases l with
    | nil => exact .inl ⟨rfl, rfl⟩
    | cons t l => exact .inr rfl
theorem tailS_snoc : ∀ (l : List Seg) (s : Seg), tailS (l ++ [s]) = tailS l ++ 44 :: s.text
  | [], s => by simp [tailS]
  | t :: l, s => by rw [List.cons_append, tailS, tailS_snoc l s, tailS]; simp
theorem joinS_snoc (l : List Seg) (s : Seg) (h : l ≠ []) : joinS (l ++ [s]) = joinS l ++ 44 :: s.text := by
  cases l with
  | nil => exact absurd rfl h
  | cons t l => rw [List.cons_append, joinS, tailS_snoc, joinS]; simp
theorem joinS_one (s : Seg) : joinS [s] = s.text := by simp [joinS, tailS]
end Go.Proofs.YtckhjhgddnjfpaaDoor
