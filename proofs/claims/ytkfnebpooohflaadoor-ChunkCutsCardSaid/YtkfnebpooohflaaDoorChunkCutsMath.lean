/-
  A body whose last chunk carries an extension and a trailer: plain mathematics.
-/
import Derived.Test.YtkfnebpooohflaaDoorChunkLawMath
import Derived.Test.YtkfnebpooohflaaDoorHeadBack
namespace Go.Proofs.YtkfnebpooohflaaDoor
open Go.RowKit HeadMath NormMath NormS HeadS ChunkMath

theorem text_plain {c : UInt8} (h : textB c = true) : plainC c := by
  constructor
  · rintro rfl
    exact absurd h (by decide)
  · rintro rfl
    exact absurd h (by decide)
theorem sign_plain {c : UInt8} (h : signB c = true) : plainC c := by
  constructor
  · rintro rfl
    exact absurd h (by decide)
  · rintro rfl
    exact absurd h (by decide)
def tailF (ext name value : ByteArray) : Bs := ([48, 48, 59] ++ ext.data.toList) ++ 13 :: 10 :: ((name.data.toList ++ ([58, 32] ++ value.data.toList)) ++ 13 :: 10 :: [13, 10])
theorem tailF_len (ext name value : ByteArray) : (tailF ext name value).length = ext.size + name.size + value.size + 11 := by
  have h (s : ByteArray) : s.data.toList.length = s.size := by simp
  unfold tailF
  simp only [List.length_append, List.length_cons, List.length_nil, h]
  omega
theorem open_tail (S : Nat) (hS : 1 ≤ S) (body : Bs) (hl : body.length ≤ 65536) (ext name value : ByteArray) (he : textF ext = true) (hn : tokenF name.data.toList = true) (hv : valueF value.data.toList = true) (z1 : ext.size ≤ 50) (z2 : name.size ≤ 50) (z3 : value.size ≤ 50) : openF fieldB (preG S body.length body ++ tailF ext name value) = .ok (body, []) := by
  have h (s : ByteArray) : s.data.toList.length = s.size := by simp
  have p1 : ∀ c ∈ [48, 48, 59] ++ ext.data.toList, plainC c := fun c hc => by
    rcases List.mem_append.1 hc with hc | hc
    · simp only [List.mem_cons, List.not_mem_nil, or_false] at hc
      rcases hc with rfl | rfl | rfl <;> exact ⟨by decide, by decide⟩
    · exact text_plain (List.all_eq_true.1 he c hc)
  have hn1 : name.data.toList.all signB = true := by
    unfold tokenF at hn
    exact (Bool.and_eq_true _ _ ▸ hn).1
  have hv1 : value.data.toList.all textB = true := by
    unfold valueF at hv
    exact (Bool.and_eq_true _ _ ▸ hv).1
  have p2 : ∀ c ∈ name.data.toList ++ ([58, 32] ++ value.data.toList), plainC c := fun c hc => by
    rcases List.mem_append.1 hc with hc | hc
    · exact sign_plain (List.all_eq_true.1 hn1 c hc)
    · rcases List.mem_append.1 hc with hc | hc
      · simp only [List.mem_cons, List.not_mem_nil, or_false] at hc
        rcases hc with rfl | rfl <;> exact ⟨by decide, by decide⟩
      · exact text_plain (List.all_eq_true.1 hv1 c hc)
  have L1 : lineF (tailF ext name value) = .ok ([48, 48, 59] ++ ext.data.toList, (name.data.toList ++ ([58, 32] ++ value.data.toList)) ++ 13 :: 10 :: [13, 10]) :=
    lineG_text _ [] _ p1 (by simp only [List.length_append, List.length_cons, List.length_nil, h]; omega)
  have L2 : lineF ((name.data.toList ++ ([58, 32] ++ value.data.toList)) ++ 13 :: 10 :: [13, 10]) = .ok (name.data.toList ++ ([58, 32] ++ value.data.toList), [13, 10]) :=
    lineG_text _ [] _ p2 (by simp only [List.length_append, List.length_cons, List.length_nil, h]; omega)
  have N1 : lengthF ([48, 48, 59] ++ ext.data.toList) = some 0 := by
    have t1 : ([48, 48, 59] ++ ext.data.toList).takeWhile hexB = [48, 48] := rfl
    have t2 : ([48, 48, 59] ++ ext.data.toList).dropWhile hexB = 59 :: ext.data.toList := rfl
    unfold lengthF
    rw [t1, t2, if_neg (by decide)]
    have t3 : extB (59 :: ext.data.toList) = true := he
    rw [if_pos t3]
    rfl
  have F1 : fieldB (name.data.toList ++ ([58, 32] ++ value.data.toList)) = true := by
    show (fieldOf (textOf (name, value))).isSome = true
    rw [fieldOf_text ⟨hn, hv⟩]
    rfl
  unfold openF
  obtain ⟨f', h1, h2⟩ := pre_fits (F := fieldB) S hS (tailF ext name value) body.length body [] ((preG S body.length body ++ tailF ext name value).length + 1) (Nat.le_refl _) (by have := (preG_len S hS body.length body (Nat.le_refl _) (by omega)).1; rw [List.length_append]; omega) (by simpa using hl)
  rw [h2]
  obtain ⟨k, rfl⟩ : ∃ k, f' = k + 1 := ⟨f' - 1, by have := (preG_len S hS body.length body (Nat.le_refl _) (by omega)).1; rw [List.length_append] at h1; omega⟩
  rw [chunkG_zero L1 N1]
  have hk2 : ((name.data.toList ++ ([58, 32] ++ value.data.toList)) ++ 13 :: 10 :: [13, 10]).length = (name.size + value.size + 5) + 1 := by
    simp only [List.length_append, List.length_cons, List.length_nil, h]
    omega
  rw [hk2, trailG_on L2 (by simp) (by rw [F1]; rintro (e | e); cases e; omega), trailG_end (show lineF [13, 10] = .ok ([], []) from rfl), List.nil_append]
end Go.Proofs.YtkfnebpooohflaaDoor
