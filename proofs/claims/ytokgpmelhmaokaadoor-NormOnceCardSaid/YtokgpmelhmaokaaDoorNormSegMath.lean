/-
  A path's pieces: what strings.Split makes of it, and what a scan does.
-/
import Derived.Test.YtokgpmelhmaokaaDoorNormDotsMath
import Derived.Lib.Split
import Derived.Lib.SplitLaws
namespace Go.Proofs.YtokgpmelhmaokaaDoor.NormMath
open Go

def splitS : List UInt8 → List Seg
  | [] => [[]]
  | c :: t => if c = 47 then [] :: splitS t else match splitS t with
    | [] => [[c]]
    | x :: r => (c :: x) :: r
theorem splitS_ne (l : List UInt8) : splitS l ≠ [] := by
  cases l with
  | nil => simp [splitS]
  | cons c t =>
    unfold splitS
    by_cases h : c = 47
    · rw [if_pos h]; simp
    · rw [if_neg h]; cases splitS t <;> simp
theorem splitS_slash (t : List UInt8) : splitS (47 :: t) = [] :: splitS t := by rw [splitS]; simp
theorem splitS_other {c : UInt8} {t : List UInt8} {x : Seg} {r : List Seg} (h : c ≠ 47) (ht : splitS t = x :: r) : splitS (c :: t) = (c :: x) :: r := by rw [splitS, if_neg h, ht]
theorem splitS_none : ∀ {a : List UInt8}, (∀ c ∈ a, c ≠ 47) → splitS a = [a]
  | [], _ => rfl
  | c :: t, h => splitS_other (h c (by simp)) (splitS_none (fun d hd => h d (by simp [hd])))
theorem splitS_app : ∀ {a : List UInt8} (b : List UInt8), (∀ c ∈ a, c ≠ 47) → splitS (a ++ 47 :: b) = a :: splitS b
  | [], b, _ => splitS_slash b
  | c :: t, b, h => splitS_other (h c (by simp)) (splitS_app b (fun d hd => h d (by simp [hd])))
theorem splitK_eq : ∀ (l : List UInt8) (k : Nat), l.count 47 ≤ k → Lib.splitK [47] 0 k l = splitS l
  | [], k, _ => by cases k <;> simp [Lib.splitK, splitS, Lib.index]
  | c :: t, 0, h => by
    have h0 : (c :: t).count 47 = 0 := by omega
    have hn : ∀ d ∈ c :: t, d ≠ 47 := fun d hd e => by subst e; exact absurd (List.count_pos_iff.2 hd) (by omega)
    rw [splitS_none hn]; rfl
  | c :: t, k + 1, h => by
    by_cases hc : c = 47
    · subst hc
      have hi : Lib.index (47 :: t) [47] = 0 := by rw [Lib.index_one, Lib.indexByte]; simp
      rw [splitS_slash, Lib.splitK, hi, if_neg (by decide)]
      have := splitK_eq t k (by rw [List.count_cons] at h; simp at h; omega)
      simp [this]
    · have hct : t.count 47 ≤ k + 1 := by rw [List.count_cons] at h; omega
      have ih := splitK_eq t (k + 1) hct
      have hi : Lib.index (c :: t) [47] = if Lib.index t [47] == -1 then -1 else Lib.index t [47] + 1 := by
        rw [Lib.index_one, Lib.index_one, Lib.indexByte]; simp [hc]
      by_cases hm : Lib.index t [47] = -1
      · rw [Lib.splitK, if_pos (by simp [hm])] at ih
        rw [splitS_other hc ih.symm, Lib.splitK, hi, hm]; simp
      · obtain ⟨j, hj⟩ : ∃ j : Nat, Lib.index t [47] = j := ⟨(Lib.index t [47]).toNat, by have := Lib.index_ge t [47]; omega⟩
        rw [Lib.splitK, if_neg (by simpa using hm), hj] at ih
        rw [splitS_other hc ih.symm, Lib.splitK, hi, hj, if_neg (by simp; omega)]
        have e : ((if ((j : Int) == -1) = true then (-1 : Int) else (j : Int) + 1)).toNat = j + 1 := by
          rw [if_neg (by simp)]; omega
        rw [e]
        simp
theorem split_pieces (s : ByteArray) : (Lib.splitB ⟨#[47]⟩ 0 (Lib.countB s ⟨#[47]⟩) s).map (·.data.toList) = splitS s.data.toList := by
  rw [Lib.splitB_data]
  exact splitK_eq _ _ (by unfold Lib.countB; exact Nat.le_of_eq (Lib.count_one 47 _).symm)
/-- A scan at place i of a text whose pieces are L: `done` are those before `from_`, and none of what stands since is a slash. -/
def Scan (L : List Seg) (l : List UInt8) (done : List Seg) (from_ i : Nat) : Prop := L = done ++ splitS (l.drop from_) ∧ from_ ≤ i ∧ i ≤ l.length ∧ ∀ j (h : j < l.length), from_ ≤ j → j < i → l[j] ≠ 47
theorem Scan.start {l : List UInt8} {b : Nat} (h : b ≤ l.length) : Scan (splitS (l.drop b)) l [] b b := ⟨by simp, Nat.le_refl _, h, fun j _ _ h => by omega⟩
theorem Scan.on {L : List Seg} {l : List UInt8} {done : List Seg} {f i : Nat} (h : Scan L l done f i) (hi : i < l.length) (hc : l[i] ≠ 47) : Scan L l done f (i + 1) := by
  obtain ⟨h1, h2, h3, h4⟩ := h
  refine ⟨h1, by omega, by omega, fun j hj hf hji => ?_⟩
  by_cases e : j = i
  · subst e; exact hc
  · exact h4 j hj hf (by omega)
theorem Scan.piece {L : List Seg} {l : List UInt8} {done : List Seg} {f i : Nat} (h : Scan L l done f i) : ∀ c ∈ (l.drop f).take (i - f), c ≠ 47 := by
  obtain ⟨h1, h2, h3, h4⟩ := h
  intro c hc
  obtain ⟨j, hj, rfl⟩ := List.mem_iff_getElem.1 hc
  have hj2 : j < i - f := by rw [List.length_take] at hj; omega
  rw [List.getElem_take, List.getElem_drop]
  exact h4 (f + j) (by omega) (by omega) (by omega)
theorem Scan.cut {L : List Seg} {l : List UInt8} {done : List Seg} {f i : Nat} (h : Scan L l done f i) (hi : i < l.length) (hc : l[i] = 47) : Scan L l (done ++ [(l.drop f).take (i - f)]) (i + 1) (i + 1) := by
  have hp := h.piece
  obtain ⟨h1, h2, h3, h4⟩ := h
  refine ⟨?_, Nat.le_refl _, by omega, fun j _ _ h => by omega⟩
  have e : l.drop f = (l.drop f).take (i - f) ++ 47 :: l.drop (i + 1) := by
    conv => lhs; rw [← List.take_append_drop (i - f) (l.drop f)]
    rw [List.drop_drop, show f + (i - f) = i by omega, List.drop_eq_getElem_cons hi, hc]
  rw [h1]
  conv => lhs; rw [e]
  rw [splitS_app _ hp]
  simp
theorem Scan.last {L : List Seg} {l : List UInt8} {done : List Seg} {f : Nat} (h : Scan L l done f l.length) : L = done ++ [l.drop f] := by
  have hp := h.piece
  rw [List.take_of_length_le (by simp)] at hp
  rw [h.1, splitS_none hp]
/-- What Dots answers for a path's text behind its first slash. -/
def dotsL (L : List Seg) : List UInt8 := textR (foldD L.dropLast (L.getLast?.getD [])) (openD (L.getLast?.getD []))
def stripF (s : List UInt8) : List UInt8 := match s with
  | [] => []
  | c :: t => if c = 47 then t else c :: t
def dotsF (s : List UInt8) : List UInt8 := dotsL (splitS (stripF s))
theorem dotsL_at {L done : List Seg} {last : Seg} (h : L = done ++ [last]) : dotsL L = textR (foldD done last) (openD last) := by
  subst h
  unfold dotsL
  simp
theorem foldD_empty (done : List Seg) : foldD done [] = done.foldl stepD [] := by unfold foldD; rw [if_pos rfl]
theorem foldD_more (done : List Seg) {last : Seg} (h : last ≠ []) : foldD done last = stepD (done.foldl stepD []) last := by
  unfold foldD; rw [if_neg h, List.foldl_append]; rfl
theorem step_dot (st : List Seg) : stepD st [46] = st := by unfold stepD; rw [if_pos rfl]
theorem step_up (st : List Seg) : stepD st [46, 46] = st.dropLast := by unfold stepD; rw [if_neg (by decide), if_pos rfl]
theorem step_else (st : List Seg) {s : Seg} (h1 : s ≠ [46]) (h2 : s ≠ [46, 46]) : stepD st s = st ++ [s] := by unfold stepD; rw [if_neg h1, if_neg h2]
/-- Folded pieces are no more than the pieces, and no longer together. -/
theorem fold_len (l : List Seg) : ∀ st : List Seg, (l.foldl stepD st).length ≤ st.length + l.length := by
  induction l with
  | nil => intro st; simp
  | cons s r ih =>
    intro st
    have h1 := ih (stepD st s)
    have h2 : (stepD st s).length ≤ st.length + 1 := by
      unfold stepD
      split
      · omega
      · split
        · rw [List.length_dropLast]; omega
        · simp
    rw [List.foldl_cons, List.length_cons]
    omega
end Go.Proofs.YtokgpmelhmaokaaDoor.NormMath
