/-
  Messages of many fields: mathematics.
  Messages of framing's fields: mathematics.
-/
import Derived.Test.YtjpmofnnjdhamaaGreatDoorMg21
import Derived.Test.YtjpmofnnjdhamaaGreatDoorMg22
namespace Go.Proofs.YtjpmofnnjdhamaaGreatDoor
open Go.RowKit HeadMath NormMath NormS HeadS ChunkMath HttpMath

def vB : ByteArray := ⟨#[118]⟩
def getL : Bs := [71, 69, 84, 32, 47, 32, 72, 84, 84, 80, 47, 49, 46, 49]
def okL : Bs := [72, 84, 84, 80, 47, 49, 46, 49, 32, 50, 48, 48, 32, 79, 75]
def serverF : ByteArray × ByteArray := (⟨#[83, 101, 114, 118, 101, 114]⟩, ⟨#[115]⟩)
def hostFi : ByteArray × ByteArray := (nHost, ⟨#[104]⟩)
def manyF (f : ByteArray × ByteArray) (name : ByteArray) (k : Nat) : Fs := f :: List.replicate k (name, vB)
/-- A field's line and its end. -/
def lineT (f : ByteArray × ByteArray) : Bs := (textOf f).data.toList ++ crlf2
def manyT (name : ByteArray) (k : Nat) : Bs := (List.replicate k (lineT (name, vB))).flatten
theorem manyT_succ (name : ByteArray) (k : Nat) : manyT name (k + 1) = manyT name k ++ lineT (name, vB) := by
  unfold manyT
  rw [List.replicate_succ', List.flatten_append]
  simp
theorem join_many (l0 : Bs) : ∀ (fs : Fs), joinL l0 (fs.map fun f => (textOf f).data.toList) ++ crlf2 = l0 ++ (crlf2 ++ (fs.map lineT).flatten)
  | [] => by unfold joinL; simp
  | f :: fs => by
    have ih := join_many (textOf f).data.toList fs
    rw [List.map_cons, joinL_cons, List.append_assoc, List.append_assoc, ih]
    unfold lineT
    simp
theorem many_msg (l0 : Bs) (f : ByteArray × ByteArray) (name : ByteArray) (k : Nat) : l0 ++ (crlf2 ++ (lineT f ++ (manyT name k ++ crlf2))) = joinL l0 ((manyF f name k).map fun f => (textOf f).data.toList) ++ (end4 ++ []) := by
  have h := join_many l0 (manyF f name k)
  have e : end4 = crlf2 ++ crlf2 := rfl
  rw [List.append_nil, e, show ∀ X : Bs, X ++ (crlf2 ++ crlf2) = (X ++ crlf2) ++ crlf2 from fun X => (List.append_assoc X crlf2 crlf2).symm, h]
  unfold manyF manyT
  rw [List.map_cons, List.flatten_cons, List.map_replicate]
  simp
theorem good_bare {f : ByteArray × ByteArray} (h : goodF f) : bareL (textOf f).data.toList = true ∧ (textOf f).data.toList ≠ [] := by
  rw [textOf_list]
  have h1 : ∀ c ∈ f.1.data.toList, bareC c = true := by
    have := h.1
    unfold tokenF at this
    simp only [Bool.and_eq_true, List.all_eq_true] at this
    intro c hc
    have hs := this.1 c hc
    unfold bareC
    simp only [Bool.and_eq_true, bne_iff_ne]
    constructor
    · intro e; subst e; exact absurd hs (by decide)
    · intro e; subst e; exact absurd hs (by decide)
  have h2 : ∀ c ∈ f.2.data.toList, bareC c = true := by
    have := h.2
    unfold valueF at this
    simp only [Bool.and_eq_true, List.all_eq_true] at this
    exact fun c hc => text_bare (this.1 c hc)
  refine ⟨?_, fun e => by simp at e⟩
  unfold bareL
  rw [List.all_append, List.all_append, List.all_eq_true.2 h1, List.all_eq_true.2 h2]
  rfl
theorem map_ba (fs : Fs) : (fs.map fun f => (textOf f).data.toList).map ba = fs.map textOf := by
  rw [List.map_map]; rfl
theorem fieldsF_text {fs : Fs} (hg : ∀ f ∈ fs, goodF f) : fieldsF (fs.map fun f => (textOf f).data.toList) = if 100 < fs.length then .error 91 else .ok fs := by
  unfold fieldsF
  rw [List.length_map, map_ba, parseF_text fs hg]
/-- A head of right fields. -/
theorem head_text (l0 : Bs) (fs : Fs) (r : Bs) (h0 : bareL l0 = true) (hg : ∀ f ∈ fs, goodF f) (hn : (joinL l0 (fs.map fun f => (textOf f).data.toList)).length + 4 ≤ 8192) : headF (joinL l0 (fs.map fun f => (textOf f).data.toList) ++ (end4 ++ r)) = .ok (l0 :: (fs.map fun f => (textOf f).data.toList), r) := by
  refine headF_lines l0 _ r h0 (fun l hl => ?_) hn
  obtain ⟨f, hf, rfl⟩ := List.mem_map.1 hl
  exact good_bare (hg f hf)
theorem allF_cons (n : ByteArray) (f : ByteArray × ByteArray) (l : Fs) : allF n (f :: l) = if isNamed n f = true then f.2 :: allF n l else allF n l := by
  unfold allF
  rw [List.filter_cons]
  split <;> rfl
theorem allF_rep {n name v : ByteArray} (h : sameF name.data.toList n.data.toList = false) : ∀ k, allF n (List.replicate k (name, v)) = []
  | 0 => rfl
  | k + 1 => by
    rw [List.replicate_succ, allF_cons, if_neg, allF_rep h k]
    show ¬ sameF name.data.toList n.data.toList = true
    rw [h]; decide
theorem getF_nil {n : ByteArray} {l : Fs} (h : allF n l = []) : getF n l = none := by
  unfold getF
  rw [List.find?_eq_none.2]
  · rfl
  · intro x hx hn
    have : x.2 ∈ allF n l := by
      unfold allF
      exact List.mem_map_of_mem (List.mem_filter.2 ⟨hx, hn⟩)
    rw [h] at this
    cases this
theorem many_good {f : ByteArray × ByteArray} {name : ByteArray} {k : Nat} (h : goodF f) (ht : tokenF name.data.toList = true) : ∀ x ∈ manyF f name k, goodF x := by
  intro x hx
  rcases List.mem_cons.1 hx with rfl | hx
  · exact h
  · rw [List.mem_replicate] at hx
    rw [hx.2]
    exact ⟨ht, by kernel_rfl⟩
theorem many_len (f : ByteArray × ByteArray) (name : ByteArray) (k : Nat) : (manyF f name k).length = k + 1 := by unfold manyF; simp
theorem join_len (l0 : Bs) : ∀ (L : List Bs) (c : Nat), (∀ l ∈ L, l.length ≤ c) → (joinL l0 L).length ≤ l0.length + L.length * (c + 2)
  | [], c, _ => by unfold joinL; simp
  | l :: L, c, h => by
    have ih := join_len l L c (fun x hx => h x (by simp [hx]))
    have hl := h l (by simp)
    rw [joinL_cons, List.length_append, List.length_append, List.length_cons]
    have e : crlf2.length = 2 := rfl
    rw [Nat.add_mul]
    omega
theorem many_join {l0 : Bs} {f : ByteArray × ByteArray} {name : ByteArray} {k : Nat} (h0 : l0.length ≤ 20) (hf : (textOf f).size ≤ 20) (hn : name.size ≤ 20) (hk : k ≤ 110) : (joinL l0 ((manyF f name k).map fun f => (textOf f).data.toList)).length + 4 ≤ 8192 := by
  have := join_len l0 ((manyF f name k).map fun f => (textOf f).data.toList) 25 (fun l hl => by
    obtain ⟨x, hx, rfl⟩ := List.mem_map.1 hl
    rw [size_list]
    rcases List.mem_cons.1 hx with rfl | hx
    · omega
    · rw [List.mem_replicate] at hx
      rw [hx.2]
      have h1 : (textOf (name, vB)).size = name.size + 2 + vB.size := textOf_size _
      have : vB.size = 1 := rfl
      omega)
  rw [List.length_map, many_len] at this
  omega
structure NameOk (name : ByteArray) : Prop where
  tok : tokenF name.data.toList = true
  host : sameF name.data.toList nHost.data.toList = false
  cl : sameF name.data.toList nCL.data.toList = false
  te : sameF name.data.toList nTE.data.toList = false
  size : name.size ≤ 20
theorem many_all {n name : ByteArray} {f : ByteArray × ByteArray} {k : Nat} (h : sameF name.data.toList n.data.toList = false) : allF n (manyF f name k) = if isNamed n f = true then [f.2] else [] := by
  unfold manyF
  rw [allF_cons, allF_rep h]
theorem req_many {name : ByteArray} (h : NameOk name) (k : Nat) (hk : k ≤ 110) : ∃ n, requestF (getL ++ (crlf2 ++ (lineT hostFi ++ (manyT name k ++ crlf2)))) = if 100 < k + 1 then .error 91 else .ok ([71, 69, 84], [47], manyF hostFi name k, [], n) := by
  have hg := many_good (k := k) (f := hostFi) ⟨by kernel_rfl, by kernel_rfl⟩ h.tok
  have hh := head_text getL (manyF hostFi name k) [] (by decide) hg (many_join (by decide) (by decide) h.size hk)
  rw [← many_msg] at hh
  have hfst : firstF getL = some ([71, 69, 84], [47]) := by kernel_rfl
  have hfs := fieldsF_text hg
  rw [many_len] at hfs
  refine ⟨(getL ++ (crlf2 ++ (lineT hostFi ++ (manyT name k ++ crlf2)))).length - 0 + 0, ?_⟩
  generalize (getL ++ (crlf2 ++ (lineT hostFi ++ (manyT name k ++ crlf2)))) = b at hh ⊢
  have h5 : reqL b getL ((manyF hostFi name k).map fun f => (textOf f).data.toList) [] = if 100 < k + 1 then .error 91 else .ok ([71, 69, 84], [47], manyF hostFi name k, [], b.length - 0 + 0) := by
    unfold reqL
    rw [hfst, hfs]
    by_cases hc : 100 < k + 1
    · rw [if_pos hc, if_pos hc]; rfl
    · rw [if_neg hc, if_neg hc]
      have a1 : allF nHost (manyF hostFi name k) = [⟨#[104]⟩] := by rw [many_all h.host, if_pos (by kernel_rfl)]; rfl
      have a2 : allF nTE (manyF hostFi name k) = [] := by rw [many_all h.te, if_neg (by rw [show isNamed nTE hostFi = false by kernel_rfl]; decide)]
      have a3 : allF nCL (manyF hostFi name k) = [] := by rw [many_all h.cl, if_neg (by rw [show isNamed nCL hostFi = false by kernel_rfl]; decide)]
      have a4 : framedF (manyF hostFi name k) [] = .ok ([], 0) := by
        unfold framedF sizeF listF
        rw [a2, a3]
        rfl
      show (if (allF nHost (manyF hostFi name k)).length = 1 then reqB [71, 69, 84] [47] (manyF hostFi name k) b [] (framedF (manyF hostFi name k) []) else .error 90) = _
      rw [a1, if_pos (by rfl), a4]
      rfl
  unfold requestF
  rw [hh]
  exact h5
theorem rsp_many {name : ByteArray} (h : NameOk name) (k : Nat) (hk : k ≤ 110) : responseF (okL ++ (crlf2 ++ (lineT serverF ++ (manyT name k ++ crlf2)))) getM = if 100 < k + 1 then .error 91 else .ok (200, [79, 75], manyF serverF name k, []) := by
  have hg := many_good (k := k) (f := serverF) ⟨by kernel_rfl, by kernel_rfl⟩ h.tok
  have hh := head_text okL (manyF serverF name k) [] (by decide) hg (many_join (by decide) (by decide) h.size hk)
  rw [← many_msg] at hh
  have hfst : statusF okL = some (200, [79, 75]) := by kernel_rfl
  have hfs := fieldsF_text hg
  rw [many_len] at hfs
  have h5 : rspL getM okL ((manyF serverF name k).map fun f => (textOf f).data.toList) [] = if 100 < k + 1 then .error 91 else .ok (200, [79, 75], manyF serverF name k, []) := by
    unfold rspL
    rw [hfst, hfs]
    by_cases hc : 100 < k + 1
    · rw [if_pos hc, if_pos hc]; rfl
    · rw [if_neg hc, if_neg hc]
      have a2 : allF nTE (manyF serverF name k) = [] := by rw [many_all h.te, if_neg (by rw [show isNamed nTE serverF = false by kernel_rfl]; decide)]
      have a3 : allF nCL (manyF serverF name k) = [] := by rw [many_all h.cl, if_neg (by rw [show isNamed nCL serverF = false by kernel_rfl]; decide)]
      have a4 : rspW (manyF serverF name k) [] = .ok ([], 0) := by
        unfold rspW
        rw [if_pos ⟨getF_nil a2, getF_nil a3⟩]
        rfl
      show (if bodilessF 200 getM = true then (.ok (200, [79, 75], manyF serverF name k, []) : Except Nat Rsp) else rspB 200 [79, 75] (manyF serverF name k) (rspW (manyF serverF name k) [])) = _
      rw [a4]
      split <;> rfl
  unfold responseF
  rw [hh]
  exact h5
end Go.Proofs.YtjpmofnnjdhamaaGreatDoor
namespace Go.Proofs.YtjpmofnnjdhamaaGreatDoor
open Go.RowKit HeadMath NormMath NormS HeadS ChunkMath HttpMath

def clName : ByteArray := ⟨#[99, 111, 110, 116, 101, 110, 116, 45, 108, 101, 110, 103, 116, 104]⟩
def flatT (fs : Fs) : Bs := (fs.map lineT).flatten
theorem flatT_snoc (fs : Fs) (f : ByteArray × ByteArray) : flatT (fs ++ [f]) = flatT fs ++ lineT f := by
  unfold flatT
  rw [List.map_append, List.flatten_append]
  simp
theorem msg_flat (l0 : Bs) (fs : Fs) (body : Bs) : l0 ++ (crlf2 ++ (flatT fs ++ (crlf2 ++ body))) = joinL l0 (fs.map fun f => (textOf f).data.toList) ++ (end4 ++ body) := by
  have h := join_many l0 fs
  have e : end4 = crlf2 ++ crlf2 := rfl
  rw [e, show joinL l0 (fs.map fun f => (textOf f).data.toList) ++ (crlf2 ++ crlf2 ++ body) = (joinL l0 (fs.map fun f => (textOf f).data.toList) ++ crlf2) ++ (crlf2 ++ body) by simp, h]
  unfold flatT
  simp
/-- The head of a first line and right fields. -/
theorem head_flat (l0 : Bs) (fs : Fs) (body : Bs) (h0 : bareL l0 = true) (hg : ∀ f ∈ fs, goodF f) (hn : l0.length + (flatT fs).length ≤ 8000) : headF (l0 ++ (crlf2 ++ (flatT fs ++ (crlf2 ++ body)))) = .ok (l0 :: (fs.map fun f => (textOf f).data.toList), body) := by
  rw [msg_flat]
  refine head_text l0 fs body h0 hg ?_
  have h := congrArg List.length (join_many l0 fs)
  have e : crlf2.length = 2 := rfl
  simp only [List.length_append, e] at h
  unfold flatT at hn
  omega
/-- S is the text of some right fields. -/
def FrS (S : ByteArray) (k : Nat) : Prop := ∃ fs : Fs, S.data.toList = flatT fs ∧ (∀ f ∈ fs, goodF f) ∧ S.size ≤ 9 + 80 * k
theorem frS_le {S : ByteArray} {k m : Nat} (h : FrS S k) (hk : k ≤ m) : FrS S m := by
  obtain ⟨fs, h1, h2, h3⟩ := h
  exact ⟨fs, h1, h2, by omega⟩
theorem frS_start : FrS ⟨#[72, 111, 115, 116, 58, 32, 104, 13, 10]⟩ 0 := by
  refine ⟨[hostFi], by kernel_rfl, fun f hf => ?_, by decide⟩
  obtain rfl : f = hostFi := by simpa using hf
  exact ⟨by kernel_rfl, by kernel_rfl⟩
theorem frS_te {S v : ByteArray} {k : Nat} (h : FrS S k) (hv : valueF v.data.toList = true) (hs : v.size ≤ 50) : FrS (S ++ (⟨#[84, 114, 97, 110, 115, 102, 101, 114, 45, 69, 110, 99, 111, 100, 105, 110, 103, 58, 32]⟩ : ByteArray) ++ v ++ (⟨#[13, 10]⟩ : ByteArray)) (k + 1) := by
  obtain ⟨fs, h1, h2, h3⟩ := h
  refine ⟨fs ++ [(nTE, v)], ?_, fun f hf => ?_, ?_⟩
  · rw [flatT_snoc, ByteArray.data_append, ByteArray.data_append, ByteArray.data_append]
    simp only [Array.toList_append, h1]
    unfold lineT
    rw [textOf_list]
    simp [nTE, crlf2]
  · rcases List.mem_append.1 hf with hf | hf
    · exact h2 f hf
    · obtain rfl : f = (nTE, v) := by simpa using hf
      exact ⟨by kernel_rfl, hv⟩
  · have e1 : (⟨#[84, 114, 97, 110, 115, 102, 101, 114, 45, 69, 110, 99, 111, 100, 105, 110, 103, 58, 32]⟩ : ByteArray).size = 19 := rfl
    have e2 : (⟨#[13, 10]⟩ : ByteArray).size = 2 := rfl
    rw [ByteArray.size_append, ByteArray.size_append, ByteArray.size_append, e1, e2]; omega
theorem frS_cl {S v : ByteArray} {k : Nat} (h : FrS S k) (hv : valueF v.data.toList = true) (hs : v.size ≤ 50) : FrS (S ++ (⟨#[99, 111, 110, 116, 101, 110, 116, 45, 108, 101, 110, 103, 116, 104, 58, 32]⟩ : ByteArray) ++ v ++ (⟨#[13, 10]⟩ : ByteArray)) (k + 1) := by
  obtain ⟨fs, h1, h2, h3⟩ := h
  refine ⟨fs ++ [(clName, v)], ?_, fun f hf => ?_, ?_⟩
  · rw [flatT_snoc, ByteArray.data_append, ByteArray.data_append, ByteArray.data_append]
    simp only [Array.toList_append, h1]
    unfold lineT
    rw [textOf_list]
    simp [clName, crlf2]
  · rcases List.mem_append.1 hf with hf | hf
    · exact h2 f hf
    · obtain rfl : f = (clName, v) := by simpa using hf
      exact ⟨by kernel_rfl, hv⟩
  · have e1 : (⟨#[99, 111, 110, 116, 101, 110, 116, 45, 108, 101, 110, 103, 116, 104, 58, 32]⟩ : ByteArray).size = 16 := rfl
    have e2 : (⟨#[13, 10]⟩ : ByteArray).size = 2 := rfl
    rw [ByteArray.size_append, ByteArray.size_append, ByteArray.size_append, e1, e2]; omega
def postL : Bs := [80, 79, 83, 84, 32, 47, 32, 72, 84, 84, 80, 47, 49, 46, 49]
def okL2 : Bs := [72, 84, 84, 80, 47, 49, 46, 49, 32, 50, 48, 48]
theorem fr_rest {l0 : Bs} {S : ByteArray} {k : Nat} {body X : Bs} (h0 : bareL l0 = true) (hl : l0.length ≤ 20) (h : FrS S k) (hk : k ≤ 8) (hX : X = l0 ++ (crlf2 ++ (S.data.toList ++ (crlf2 ++ body)))) (hb : body.length ≤ 500) : ∀ ls rest, headF X = .ok (ls, rest) → rest.length ≤ 1024 := by
  intro ls rest hH
  obtain ⟨fs, h1, h2, h3⟩ := h
  rw [hX, h1, head_flat l0 fs body h0 h2 (by rw [← h1, size_list]; omega)] at hH
  injection hH with hH
  injection hH with _ hH
  rw [← hH]; omega
end Go.Proofs.YtjpmofnnjdhamaaGreatDoor
