/-
  NormSegments' mathematics.
-/
import Derived.Test.YtokgpmelhmaokaaDoorNormOnceDots
namespace Go.Proofs.YtokgpmelhmaokaaDoor
open Go.RowKit HeadMath NormMath

def tblB : List ByteArray := [⟨#[46]⟩, ⟨#[46, 46]⟩, ⟨#[97]⟩, ⟨#[98]⟩, ⟨#[46, 46, 46]⟩, ⟨#[46, 99]⟩, ⟨#[97]⟩, ⟨#[98]⟩]
def tblAt (r : Nat) : ByteArray := tblB.getD r ⟨#[]⟩
def seg (c : UInt8) : Seg := (tblAt (c.toNat % 8)).data.toList
def segs (l : List UInt8) : List Seg := l.map seg
theorem tbl_facts : ∀ r : Fin 8, (tblAt r.1).size ≤ 3 ∧ (tblAt r.1).data.toList ≠ [] ∧ (tblAt r.1).data.toList.contains 47 = false := by decide +kernel
theorem seg_facts (c : UInt8) : seg c ≠ [] ∧ ∀ d ∈ seg c, d ≠ 47 := by
  have h := tbl_facts ⟨c.toNat % 8, by omega⟩
  refine ⟨h.2.1, fun d hd e => ?_⟩
  subst e
  have h2 := h.2.2
  rw [show (tblAt (⟨c.toNat % 8, by omega⟩ : Fin 8).1).data.toList = seg c from rfl] at h2
  rw [List.contains_iff_mem.2 hd] at h2
  cases h2
theorem tbl_size {r : Nat} (h : r < 8) : (tblAt r).size ≤ 3 := (tbl_facts ⟨r, h⟩).1
theorem tbl_cell (w : World) {r : Nat} (h : r < 8) : (w.alloc (.cells #[.string ⟨#[46]⟩, .string ⟨#[46, 46]⟩, .string ⟨#[97]⟩, .string ⟨#[98]⟩, .string ⟨#[46, 46, 46]⟩, .string ⟨#[46, 99]⟩, .string ⟨#[97]⟩, .string ⟨#[98]⟩] 9)).cell? ⟨w.heap.size, r, none⟩ = some (.string (tblAt r)) := by
  have h1 := cell_of_lit w tblB r h
  have e : tblB[r] = tblAt r := by
    unfold tblAt
    rw [List.getD, List.getElem?_eq_getElem h]
    rfl
  rw [e] at h1
  exact h1
def catS (L : List Seg) : List UInt8 := (L.map ([47] ++ ·)).flatten
def SegAt (l : List UInt8) (k : Nat) (R : List ByteArray) (P X : ByteArray) : Prop :=
  P.data.toList = catS (segs (l.take k)) ∧ datas R = (segs (l.take k)).foldl stepD [] ∧ X.data.toList = (segs (l.take k)).getLast?.getD []
theorem segAt_zero (l : List UInt8) : SegAt l 0 [] ⟨#[]⟩ ⟨#[]⟩ := ⟨rfl, rfl, rfl⟩
theorem segs_take {l : List UInt8} {k : Nat} (hk : k < l.length) : segs (l.take (k + 1)) = segs (l.take k) ++ [seg l[k]] := by
  unfold segs
  rw [List.take_add_one, List.getElem?_eq_getElem hk, List.map_append]
  rfl
theorem SegAt.on {l : List UInt8} {k : Nat} {R R' : List ByteArray} {P P' X X' : ByteArray} (h : SegAt l k R P X) (hk : k < l.length) (hX : X'.data.toList = seg l[k]) (hP : P' = P ++ ⟨#[47]⟩ ++ X') (hR : datas R' = stepD (datas R) X'.data.toList) : SegAt l (k + 1) R' P' X' := by
  refine ⟨?_, ?_, ?_⟩
  · rw [hP, segs_take hk, ByteArray.data_append, ByteArray.data_append, Array.toList_append, Array.toList_append, h.1, hX]
    simp [catS]
  · rw [segs_take hk, hR, h.2.1, hX, List.foldl_append]; rfl
  · rw [segs_take hk, hX]; simp
/-- What the law wants, and what the dots give. -/
theorem seg_dots (l : List UInt8) (endd : Bool) : dotsF (catS (segs l) ++ (if endd then [47] else [])) = textR ((segs l).foldl stepD []) (endd || (segs l).getLast?.getD [] == [46] || (segs l).getLast?.getD [] == [46, 46]) := by
  have h47 : ∀ x ∈ segs l, ∀ c ∈ x, c ≠ 47 := by
    intro x hx
    obtain ⟨c, _, rfl⟩ := List.mem_map.1 hx
    exact (seg_facts c).2
  have hne : ∀ x ∈ segs l, x ≠ [] := by
    intro x hx
    obtain ⟨c, _, rfl⟩ := List.mem_map.1 hx
    exact (seg_facts c).1
  generalize segs l = L at h47 hne ⊢
  rcases List.eq_nil_or_concat L with h | ⟨D, x, h⟩
  · subst h; cases endd <;> rfl
  · rw [List.concat_eq_append] at h
    have hL : L ≠ [] := by rw [h]; simp
    have hj := join_slash L hL
    have hx := hne x (by rw [h]; simp)
    have hg : L.getLast?.getD [] = x := by rw [h]; simp
    rw [hg]
    unfold catS dotsF
    rw [← hj]
    cases endd with
    | true =>
      rw [if_pos rfl, List.append_assoc, List.cons_append, strip_cons, List.nil_append, dotsL_at (split_join_end L hL h47), foldD_empty]
      rfl
    | false =>
      rw [if_neg (by decide), List.append_nil, List.cons_append, List.nil_append, strip_cons, split_join L hL h47, dotsL_at h]
      have e : foldD D x = L.foldl stepD [] := by unfold foldD; rw [if_neg hx, ← h]
      have e2 : openD x = (false || x == [46] || x == [46, 46]) := by
        unfold openD
        rw [show (x == []) = false by simpa using hx]
      rw [e, e2]
theorem seg_want {l : List UInt8} {R : List ByteArray} {P P' X T : ByteArray} {endd : Bool} {t : List UInt8} (h : SegAt l l.length R P X) (hP : P'.data.toList = P.data.toList ++ (if endd then [47] else [])) (hT : T.data.toList = catF R) (ht : t = if endd || X.data.toList == [46] || X.data.toList == [46, 46] || T.data.toList.isEmpty then T.data.toList ++ [47] else T.data.toList) : dotsF P'.data.toList = t := by
  obtain ⟨h1, h2, h3⟩ := h
  rw [List.take_length] at h1 h2 h3
  rw [hP, h1, seg_dots, ← h2, ht, h3, hT]
  rfl
section
variable {w : World}
/-- append(v, x) of one text, the new row's number told otherwise. -/
theorem wpList_rowS_at {ops : Array Oper} {rest : List Oper} {o : Oper} {a : Act} {Q : Exit → Act → World → Prop} (hgd : o.guard = none) (s y : Operand)
    (ho : o.op = .call { callee := .builtin .append, args := #[s, y], argTypes := #[30, 30] })
    (B : Nat) (v : Value) (l : List ByteArray) (hs : a.eval s = v) (hown : RowS B w v l) (x : ByteArray) (N : Nat) (hN : N = w.heap.size)
    (hy : a.eval y = .slice (some ⟨N, 0, none⟩) 1 1) (hlen : l.length + 1 ≤ 1000000000000) (hB : B ≤ w.heap.size)
    (hK : ∀ v' w', RowS B w' v' (l ++ [x]) → Spares (atLeast B) w w' → wpList Tryd.prog ops Q rest (a.put o.dst v') w') : wpList Tryd.prog ops Q (o :: rest) a (w.alloc (.cells #[.string x] 9)) := by
  subst hN
  exact wpList_rowS_one hgd s y ho B v l hs hown x hy hlen hB hK
end
theorem alloc_size (w : World) (o : Obj) : w.heap.size + 1 = (w.alloc o).heap.size := by simp [go_sem]
theorem BytesAt.later {w w' : World} {a : Option Addr} {l : List UInt8} (h : BytesAt w a l) (hs : Spares (atLeast w.heap.size) w w') : BytesAt w' a l := by
  intro k hk
  obtain ⟨b, off, rfl, hc⟩ := h k hk
  have hlt : b < w.heap.size := by
    rcases Nat.lt_or_ge b w.heap.size with h | h
    · exact h
    · simp [World.cell?, Array.getElem?_eq_none h] at hc
  exact ⟨b, off, rfl, (hs.cell (p := ⟨b, off + k, none⟩) hlt (fun h2 => absurd hlt (Nat.not_lt.2 h2))).trans hc⟩
end Go.Proofs.YtokgpmelhmaokaaDoor
