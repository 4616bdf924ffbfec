/-
  The reference's Dots.
-/
import Derived.Test.YtokgpmelhmaokaaDoorNormHost
import Derived.Test.YtokgpmelhmaokaaDoorRowS
import Derived.Test.YtokgpmelhmaokaaDoorNormSegMath
namespace Go.Proofs.YtokgpmelhmaokaaDoor
open Go.RowKit HeadMath NormMath

def datas (R : List ByteArray) : List Seg := R.map (·.data.toList)
theorem datas_len (R : List ByteArray) : (datas R).length = R.length := by simp [datas]
theorem datas_app (R : List ByteArray) (x : ByteArray) : datas (R ++ [x]) = datas R ++ [x.data.toList] := by simp [datas]
def catF (R : List ByteArray) : List UInt8 := ((datas R).map ([47] ++ ·)).flatten
theorem catF_app (R : List ByteArray) (x : ByteArray) : catF (R ++ [x]) = catF R ++ ([47] ++ x.data.toList) := by simp [catF, datas]
theorem catF_take {R : List ByteArray} {k : Nat} (h : k < R.length) : catF (R.take (k + 1)) = catF (R.take k) ++ ([47] ++ R[k].data.toList) := by
  rw [List.take_add_one, List.getElem?_eq_getElem h]
  exact catF_app _ _
/-- The state of the scan's loop: the pieces so far are folded in R; behind the last piece all is. -/
def DotsInv (p : ByteArray) (L : List Seg) (f i : Nat) (R : List ByteArray) (endd : Bool) : Prop :=
  (∃ done, Scan L p.data.toList done f i ∧ datas R = done.foldl stepD [] ∧ endd = false ∧ done.length ≤ i) ∨
  (i = p.size + 1 ∧ ∃ done last, L = done ++ [last] ∧ datas R = foldD done last ∧ endd = openD last ∧ done.length ≤ p.size)
-- GEN
theorem dots_on {p : ByteArray} {L : List Seg} {f k : Nat} {R : List ByteArray} {e : Bool} (h : DotsInv p L f k R e) (hk : k < p.size) (hc : p[k] ≠ 47) : DotsInv p L f (k + 1) R e := by
  rcases h with ⟨done, h1, h2, h3, h4⟩ | ⟨h1, _⟩
  · exact .inl ⟨done, h1.on (by rw [size_list]; exact hk) hc, h2, h3, by omega⟩
  · omega
theorem dots_end {p : ByteArray} {L : List Seg} {f k : Nat} {R : List ByteArray} {e : Bool} (h : DotsInv p L f k R e) (hk : k ≤ p.size) : e = false ∧ f ≤ k := by
  rcases h with ⟨done, h1, h2, h3, h4⟩ | ⟨h1, _⟩
  · exact ⟨h3, h1.2.1⟩
  · omega
/-- One piece more, not the last. -/
theorem dots_cut {p : ByteArray} {L : List Seg} {f k : Nat} {R R' : List ByteArray} {e : Bool} (h : DotsInv p L f k R e) (hk : k < p.size) (hc : p[k] = 47) (hR : datas R' = stepD (datas R) (p.extract f k).data.toList) : DotsInv p L (k + 1) (k + 1) R' false := by
  rcases h with ⟨done, h1, h2, h3, h4⟩ | ⟨h1, _⟩
  · refine .inl ⟨_, h1.cut (by rw [size_list]; exact hk) hc, ?_, rfl, by simp; omega⟩
    rw [List.foldl_append, ← h2, hR, Lib.extract_data]
    rfl
  · omega
/-- The last piece. -/
theorem dots_last {p : ByteArray} {L : List Seg} {f f' : Nat} {R R' : List ByteArray} {e : Bool} (h : DotsInv p L f p.size R e) (hR : datas R' = if (p.extract f p.size).data.toList = [] then datas R else stepD (datas R) (p.extract f p.size).data.toList) : DotsInv p L f' (p.size + 1) R' (openD (p.extract f p.size).data.toList) := by
  rcases h with ⟨done, h1, h2, h3, h4⟩ | ⟨h1, _⟩
  · refine .inr ⟨rfl, done, _, Scan.last (f := f) (by rw [size_list]; exact h1), ?_, by rw [Lib.extract_to_end], h4⟩
    rw [hR, Lib.extract_to_end]
    by_cases hn : p.data.toList.drop f = []
    · rw [if_pos hn, hn, foldD_empty, h2]
    · rw [if_neg hn, foldD_more _ hn, h2]
  · omega
theorem dots_more {p : ByteArray} {L : List Seg} {f f' k : Nat} {R R' : List ByteArray} {e b : Bool} {u : ByteArray} (h : DotsInv p L f k R e) (hk : k = p.size) (hx : p.extract f k = u) (hR : datas R' = if u.data.toList = [] then datas R else stepD (datas R) u.data.toList) (hb : openD u.data.toList = b) : DotsInv p L f' (k + 1) R' b := by
  subst hk
  subst hx
  subst hb
  exact dots_last h hR
theorem open_else {u : Seg} (h1 : u ≠ [46]) (h2 : u ≠ [46, 46]) (h3 : u ≠ []) : openD u = false := by
  unfold openD; simp [h1, h2, h3]
theorem datas_pop (R : List ByteArray) (x : ByteArray) : datas R = (datas (R ++ [x])).dropLast := by rw [datas_app, List.dropLast_concat]
theorem strip_plain {s : ByteArray} (h0 : 0 < s.size) (hc : s[0] ≠ 47) : dotsF s.data.toList = dotsL (splitS s.data.toList) := by
  unfold dotsF
  obtain ⟨l, hl⟩ : ∃ l, s.data.toList = l := ⟨_, rfl⟩
  have h1 : l.length = s.size := by rw [← hl]; exact size_list s
  match l, hl, h1 with
  | [], _, h1 => simp at h1; omega
  | c :: t, hl, _ =>
    have e : s[0] = c := by
      have e1 : s.data.toList[0]'(by rw [size_list]; exact h0) = c := by simp [hl]
      rw [list_at s 0 h0] at e1
      exact e1
    rw [hl]
    rw [e] at hc
    simp [stripF, hc]
theorem strip_slash {s : ByteArray} (h0 : 0 < s.size) (hc : s[0] = 47) : dotsF s.data.toList = dotsL (splitS (s.data.toList.drop 1)) := by
  unfold dotsF
  obtain ⟨l, hl⟩ : ∃ l, s.data.toList = l := ⟨_, rfl⟩
  have h1 : l.length = s.size := by rw [← hl]; exact size_list s
  match l, hl, h1 with
  | [], _, h1 => simp at h1; omega
  | c :: t, hl, _ =>
    have e : s[0] = c := by
      have e1 : s.data.toList[0]'(by rw [size_list]; exact h0) = c := by simp [hl]
      rw [list_at s 0 h0] at e1
      exact e1
    rw [hl]
    rw [e] at hc
    simp [stripF, hc]
/-- What the text is, behind the last piece. -/
theorem dots_told {p T : ByteArray} {L : List Seg} {f k : Nat} {R : List ByteArray} {e : Bool} {x l : List UInt8} (hL : x = dotsL L) (h : DotsInv p L f k R e) (hk : ¬ k ≤ p.size) (hT : T.data.toList = catF R) (hx : (if e || T.data.toList.isEmpty then T.data.toList ++ [47] else T.data.toList) = l) : x = l := by
  rcases h with ⟨done, h1, h2, h3, h4⟩ | ⟨h1, done, last, h2, h3, h4, h5⟩
  · exact absurd h1.2.2.1 (by rw [size_list]; exact hk)
  · rw [hL, dotsL_at h2, ← h3, ← h4, ← hx, hT]
    rfl
theorem text_plus {T : ByteArray} {l : List UInt8} (h : l = T.data.toList ++ [47]) : (⟨l.toArray⟩ : ByteArray) = T ++ ⟨#[47]⟩ := by
  subst h
  apply ByteArray.ext
  apply Array.toList_inj.1
  simp [ByteArray.data_append]
theorem text_is {T : ByteArray} {l : List UInt8} (h : l = T.data.toList) : (⟨l.toArray⟩ : ByteArray) = T := by
  subst h
  rfl
def SmallR (R : List ByteArray) : Prop := ∀ x ∈ R, x.size ≤ 1000001
theorem smallR_nil : SmallR [] := by intro x hx; cases hx
theorem SmallR.app {R : List ByteArray} {p u : ByteArray} {f k : Nat} (h : SmallR R) (hx : p.extract f k = u) (hp : p.size ≤ 1000001) : SmallR (R ++ [u]) := by
  intro x hm
  rcases List.mem_append.1 hm with h1 | h1
  · exact h x h1
  · simp at h1
    subst h1
    rw [← hx, ByteArray.size_extract]
    omega
theorem SmallR.pop {R : List ByteArray} {x : ByteArray} (h : SmallR (R ++ [x])) : SmallR R := fun y hy => h y (List.mem_append_left _ hy)
theorem catF_len : ∀ {R : List ByteArray}, SmallR R → (catF R).length ≤ 1000002 * R.length
  | [], _ => by simp [catF, datas]
  | x :: R, h => by
    have ih := catF_len (R := R) (fun y hy => h y (List.mem_cons_of_mem _ hy))
    have h1 := h x (List.mem_cons_self ..)
    have e : catF (x :: R) = [47] ++ x.data.toList ++ catF R := by simp [catF, datas]
    rw [e]; simp only [List.length_append, List.length_cons, List.length_nil, size_list]
    omega
theorem cat_small {R : List ByteArray} {T : ByteArray} {j : Nat} (h : SmallR R) (hR : R.length ≤ 1000002) (hj : j ≤ R.length) (hT : T.data.toList = catF (R.take j)) : T.size ≤ 1000004000004 := by
  have h1 := catF_len (R := R.take j) (fun y hy => h y (List.mem_of_mem_take hy))
  rw [← hT, size_list, List.length_take_of_le hj] at h1
  omega
end Go.Proofs.YtokgpmelhmaokaaDoor
