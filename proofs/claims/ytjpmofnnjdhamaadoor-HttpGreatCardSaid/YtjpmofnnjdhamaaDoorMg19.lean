/-
  What known's messages are.
  A response of three digits: mathematics.
  Messages of many fields: mathematics.
-/
import Derived.Test.YtjpmofnnjdhamaaDoorMg16
import Derived.Test.YtjpmofnnjdhamaaDoorMg18
namespace Go.Proofs.YtjpmofnnjdhamaaDoor
open Go.RowKit HeadMath NormMath NormS HeadS ChunkMath HttpMath

def exQ : Bs := [71, 69, 84, 32, 47, 32, 72, 84, 84, 80, 47, 49, 46, 49, 13, 10, 72, 111, 115, 116, 58, 32, 104, 13, 10, 13, 10, 109, 111, 114, 101]
def exB : Bs := [71, 69, 84, 32, 47, 13, 10, 13, 10]
def exR : Bs := [72, 84, 84, 80, 47, 49, 46, 49, 32, 50, 48, 48, 32, 79, 75, 13, 10, 67, 111, 110, 116, 101, 110, 116, 45, 76, 101, 110, 103, 116, 104, 58, 32, 50, 13, 10, 13, 10, 104, 105, 33]
def getM : ByteArray := ⟨#[71, 69, 84]⟩
def hostF : Fs := [(nHost, ⟨#[104]⟩)]
def twoF : Fs := [(nCL, ⟨#[50]⟩)]
theorem parts_num {v : ByteArray} (h0 : v.data.toList ≠ []) (h : ∀ c ∈ v.data.toList, DateMath.digitD c = true) : partsF v = [v] := by
  have hd : ∀ c ∈ v.data.toList, c ≠ 34 ∧ c ≠ 44 ∧ blankB c = false := by
    intro c hc
    have := h c hc
    unfold DateMath.digitD at this
    rw [decide_eq_true_iff] at this
    refine ⟨fun e => ?_, fun e => ?_, ?_⟩
    · subst e; exact absurd this (by decide)
    · subst e; exact absurd this (by decide)
    · unfold blankB
      rw [Bool.or_eq_false_iff]
      constructor <;> (rw [beq_eq_false_iff_ne]; intro e; subst e; exact absurd this (by decide))
  have hp := parts_step v.data.toList [] [] (Closed.plain (fun c hc => ⟨(hd c hc).1, (hd c hc).2.1⟩)) (.inl ⟨rfl, rfl⟩)
  rw [List.append_nil] at hp
  have ht : trimF v.data.toList = v.data.toList := trimF_id ⟨fun c hc => (hd c (List.mem_of_mem_head? hc)).2.2, fun c hc => (hd c (List.mem_of_getLast? hc)).2.2⟩
  rw [ht] at hp
  have ha : arr v.data.toList = v := rfl
  rw [ha] at hp
  rw [hp, partsF_nil (v := arr []) rfl, List.append_nil]
  unfold told
  rw [if_neg]
  intro e
  exact h0 (List.eq_nil_of_length_eq_zero (by rw [size_list]; exact e))
set_option maxRecDepth 100000 in
theorem req_exQ : requestF exQ = .ok ([71, 69, 84], [47], hostF, [], 27) := by kernel_rfl
set_option maxRecDepth 100000 in
theorem req_exB : requestF exB = .error 95 := by kernel_rfl
theorem rsp_nil : responseF [] getM = .error 92 := by kernel_rfl
set_option maxRecDepth 100000 in
theorem rsp_exR0 : headF exR = .ok ([[72, 84, 84, 80, 47, 49, 46, 49, 32, 50, 48, 48, 32, 79, 75], [67, 111, 110, 116, 101, 110, 116, 45, 76, 101, 110, 103, 116, 104, 58, 32, 50]], [104, 105, 33]) := by kernel_rfl
theorem size_two : sizeF twoF = .ok 2 := by
  unfold sizeF
  have h1 : allF nCL twoF = [⟨#[50]⟩] := by kernel_rfl
  have h2 : listF nCL twoF = [⟨#[50]⟩] := by
    unfold listF
    rw [h1, List.flatMap_cons, List.flatMap_nil, parts_num (by decide) (by decide)]
    rfl
  rw [h2]
  exact (show sizeL [⟨#[50]⟩] = .ok 2 by kernel_rfl)
set_option maxRecDepth 100000 in
theorem rsp_exR : responseF exR getM = .ok (200, [79, 75], twoF, [104, 105]) := by
  unfold responseF
  rw [rsp_exR0]
  have h1 : statusF [72, 84, 84, 80, 47, 49, 46, 49, 32, 50, 48, 48, 32, 79, 75] = some (200, [79, 75]) := by kernel_rfl
  have h2 : fieldsF [[67, 111, 110, 116, 101, 110, 116, 45, 76, 101, 110, 103, 116, 104, 58, 32, 50]] = .ok twoF := by kernel_rfl
  have h3 : rspW twoF [104, 105, 33] = .ok ([104, 105], 2) := by
    unfold rspW
    rw [if_neg (by rw [show getF nCL twoF = some ⟨#[50]⟩ by kernel_rfl]; simp)]
    unfold framedF
    rw [if_pos (by kernel_rfl), size_two]
    rfl
  have h4 : rspH 200 [79, 75] getM [104, 105, 33] (.ok twoF) = .ok (200, [79, 75], twoF, [104, 105]) := by
    show (if bodilessF 200 getM = true then (.ok (200, [79, 75], twoF, []) : Except Nat Rsp) else rspB 200 [79, 75] twoF (rspW twoF [104, 105, 33])) = _
    rw [if_neg (by rw [show bodilessF 200 getM = false by kernel_rfl]; decide), h3]
    rfl
  have h5 : rspL getM [72, 84, 84, 80, 47, 49, 46, 49, 32, 50, 48, 48, 32, 79, 75] [[67, 111, 110, 116, 101, 110, 116, 45, 76, 101, 110, 103, 116, 104, 58, 32, 50]] [104, 105, 33] = .ok (200, [79, 75], twoF, [104, 105]) := by
    unfold rspL
    rw [h1, h2]
    exact h4
  exact h5
end Go.Proofs.YtjpmofnnjdhamaaDoor
namespace Go.Proofs.YtjpmofnnjdhamaaDoor
open Go.RowKit HeadMath NormMath NormS HeadS ChunkMath HttpMath

def dg (k : Nat) : UInt8 := UInt8.ofNat (48 + k)
theorem dg_nat {k : Nat} (h : k ≤ 9) : (dg k).toNat = 48 + k := by unfold dg; simp; omega
theorem dg_digit {k : Nat} (h : k ≤ 9) : DateMath.digitD (dg k) = true := by
  unfold DateMath.digitD; rw [dg_nat h]; simp; omega
def digs (n : Nat) : Bs := [dg (n / 100), dg (n / 10 % 10), dg (n % 10)]
theorem num_digs {n : Nat} (h : n < 1000) : DateMath.numF (digs n) 3 = some n := by
  have h1 : n / 100 ≤ 9 := by omega
  have h2 : n / 10 % 10 ≤ 9 := by omega
  have h3 : n % 10 ≤ 9 := by omega
  unfold DateMath.numF
  rw [if_pos ⟨by simp [digs], by simp [digs], by simp [digs, dg_digit h1, dg_digit h2, dg_digit h3]⟩]
  unfold DateMath.valD digs
  simp only [List.foldl_cons, List.foldl_nil, dg_nat h1, dg_nat h2, dg_nat h3]
  congr 1; omega
def respL (n : Nat) (reason : Bs) : Bs := (http11 ++ [32]) ++ (digs n ++ (32 :: reason))
theorem dg_ne {k : Nat} (h : k ≤ 9) (c : UInt8) (hc : c.toNat < 48) : dg k ≠ c := fun e => by
  have := dg_nat h; rw [e] at this; omega
theorem index_blank {n : Nat} (h : n < 1000) (reason : Bs) : Lib.indexByte (digs n ++ (32 :: reason)) 32 = 3 := by
  have h1 := dg_ne (k := n / 100) (by omega) 32 (by decide)
  have h2 := dg_ne (k := n / 10 % 10) (by omega) 32 (by decide)
  have h3 := dg_ne (k := n % 10) (by omega) 32 (by decide)
  unfold digs
  simp [Lib.indexByte, h1, h2, h3]
theorem status_line {n : Nat} (h : n < 1000) {reason : Bs} (hr : reason.all textB = true) : statusF (respL n reason) = if 200 ≤ n ∧ n ≤ 599 then some (n, reason) else none := by
  have hd : (respL n reason).drop 9 = digs n ++ (32 :: reason) := rfl
  unfold statusF
  rw [if_pos (by rw [List.isPrefixOf_iff_prefix]; exact List.prefix_append _ _), hd]
  have hi := index_blank h reason
  have h1 : codeOf (digs n ++ (32 :: reason)) = digs n := by
    unfold codeOf
    rw [hi, if_neg (by decide)]
    rfl
  have h2 : reasonOf (digs n ++ (32 :: reason)) = reason := by
    unfold reasonOf
    rw [hi, if_neg (by decide)]
    rfl
  rw [h1, h2]
  unfold codeF
  rw [num_digs h]
  simp only [hr, and_true]
  have hl : (digs n).length = 3 := rfl
  simp only [hl, true_and]
theorem text_bare {c : UInt8} (h : textB c = true) : bareC c = true := by
  unfold bareC
  simp only [Bool.and_eq_true, bne_iff_ne]
  constructor
  · intro e; subst e; exact absurd h (by decide)
  · intro e; subst e; exact absurd h (by decide)
theorem dg_bare {k : Nat} (h : k ≤ 9) : bareC (dg k) = true := by
  refine text_bare ?_
  have hn := dg_nat h
  unfold textB
  rw [Bool.or_eq_true]
  right
  simp only [Bool.not_eq_true', Bool.or_eq_false_iff, decide_eq_false_iff_not, beq_eq_false_iff_ne]
  exact ⟨by omega, fun e => by rw [e] at hn; simp at hn; omega⟩
theorem respL_bare {n : Nat} (h : n < 1000) {reason : Bs} (hr : reason.all textB = true) : bareL (respL n reason) = true := by
  unfold bareL respL
  have h1 : http11.all bareC = true := by decide
  have h0 : bareC 32 = true := by decide
  have h2 : (digs n).all bareC = true := by
    unfold digs
    simp only [List.all_cons, List.all_nil, dg_bare (k := n / 100) (by omega), dg_bare (k := n / 10 % 10) (by omega), dg_bare (k := n % 10) (by omega)]
    rfl
  have h3 : reason.all bareC = true := by
    rw [List.all_eq_true] at hr ⊢
    exact fun c hc => text_bare (hr c hc)
  simp only [List.all_append, List.all_cons, List.all_nil, h0, h1, h2, h3]
  rfl
def clL2 : Bs := [67, 111, 110, 116, 101, 110, 116, 45, 76, 101, 110, 103, 116, 104, 58, 32, 50]
def tailS : Bs := 13 :: 10 :: (clL2 ++ [13, 10, 13, 10, 104, 105])
theorem head_status {n : Nat} (h : n < 1000) {reason : Bs} (hr : reason.all textB = true) (hl : reason.length ≤ 1000) : headF (respL n reason ++ tailS) = .ok ([respL n reason, clL2], [104, 105]) := by
  have e : respL n reason ++ tailS = joinL (respL n reason) [clL2] ++ (end4 ++ [104, 105]) := by
    unfold joinL
    simp [tailS, end4, crlf2]
  rw [e]
  refine headF_lines _ _ _ (respL_bare h hr) (fun l hl => ?_) ?_
  · rw [List.mem_singleton] at hl
    subst hl
    exact ⟨by decide, by decide⟩
  · unfold joinL respL
    simp [crlf2, http11, digs, clL2]
    omega
def noneB (n : Nat) : Bool := n == 204 || n == 304
theorem bodiless_get {n : Nat} (h : 200 ≤ n) : bodilessF n getM = noneB n := by
  have h1 : (getM.data.toList == headM.data.toList) = false := by kernel_rfl
  have h2 : decide ((n : Int) < 200) = false := decide_eq_false (by omega)
  have h3 : ((n : Int) == 204) = (n == 204) := by
    by_cases e : n = 204
    · rw [e]; rfl
    · rw [beq_eq_false_iff_ne.2 e, beq_eq_false_iff_ne.2 (by omega)]
  have h4 : ((n : Int) == 304) = (n == 304) := by
    by_cases e : n = 304
    · rw [e]; rfl
    · rw [beq_eq_false_iff_ne.2 e, beq_eq_false_iff_ne.2 (by omega)]
  show ((getM.data.toList == headM.data.toList) || ((n : Int) == 204) || ((n : Int) == 304) || decide ((n : Int) < 200)) = _
  rw [h1, h2, h3, h4, Bool.or_false, Bool.false_or]
  rfl
theorem bodiless_head (n : Nat) : bodilessF n headM = true := by unfold bodilessF; simp
theorem rspW_two : rspW twoF [104, 105] = .ok ([104, 105], 2) := by
  unfold rspW
  rw [if_neg (by rw [show getF nCL twoF = some ⟨#[50]⟩ by kernel_rfl]; simp)]
  unfold framedF
  rw [if_pos (by kernel_rfl), size_two]
  rfl
/-- What is answered. -/
def stBody (n : Nat) : Bs := if noneB n = true then [] else [104, 105]
theorem rsp_status {n : Nat} (h : n < 1000) {reason : Bs} (hr : reason.all textB = true) (hl : reason.length ≤ 1000) : responseF (respL n reason ++ tailS) getM = if 200 ≤ n ∧ n ≤ 599 then .ok (n, reason, twoF, stBody n) else .error 95 := by
  unfold responseF
  rw [head_status h hr hl]
  have h5 : rspL getM (respL n reason) [clL2] [104, 105] = if 200 ≤ n ∧ n ≤ 599 then .ok (n, reason, twoF, stBody n) else .error 95 := by
    unfold rspL
    rw [status_line h hr]
    by_cases hc : 200 ≤ n ∧ n ≤ 599
    · rw [if_pos hc, if_pos hc]
      have h2 : fieldsF [clL2] = .ok twoF := by kernel_rfl
      simp only [h2]
      unfold rspH
      simp only
      rw [bodiless_get hc.1]
      unfold stBody
      cases hb : noneB n with
      | true => rfl
      | false =>
        rw [if_neg (by decide), if_neg (by decide), rspW_two]
        rfl
    · rw [if_neg hc, if_neg hc]
  exact h5
end Go.Proofs.YtjpmofnnjdhamaaDoor
namespace Go.Proofs.YtjpmofnnjdhamaaDoor
open Go.RowKit HeadMath NormMath NormS HeadS ChunkMath HttpMath

def vB : ByteArray := ⟨#[118]⟩
def getL : Bs := [71, 69, 84, 32, 47, 32, 72, 84, 84, 80, 47, 49, 46, 49]
def okL : Bs := [72, 84, 84, 80, 47, 49, 46, 49, 32, 50, 48, 48, 32, 79, 75]
def serverF : ByteArray × ByteArray := (⟨#[83, 101, 114, 118, 101, 114]⟩, ⟨#[115]⟩)
def hostFi : ByteArray × ByteArray := (nHost, ⟨#[104]⟩)
def manyF (f : ByteArray × ByteArray) (name : ByteArray) (k : Nat) : Fs := f :: List.replicate k (name, vB)
/-- A field's line and its end. -/
def lineT (f : ByteArray × ByteArray) : Bs := (textOf f).data.toList ++ crlf2
def manyT (name : ByteArray) (k : Nat) : Bs := (List.replicate k (lineT (name, vB))).flatten
theorem manyT_succ (name : ByteArray) (k : Nat) : manyT name (k + 1) = manyT name k ++ lineT (name, vB) := by
  unfold manyT
  rw [List.replicate_succ', List.flatten_append]
  simp
theorem join_many (l0 : Bs) : ∀ (fs : Fs), joinL l0 (fs.map fun f => (textOf f).data.toList) ++ crlf2 = l0 ++ (crlf2 ++ (fs.map lineT).flatten)
  | [] => by unfold joinL; simp
  | f :: fs => by
    have ih := join_many (textOf f).data.toList fs
    rw [List.map_cons, joinL_cons, List.append_assoc, List.append_assoc, ih]
    unfold lineT
    simp
theorem many_msg (l0 : Bs) (f : ByteArray × ByteArray) (name : ByteArray) (k : Nat) : l0 ++ (crlf2 ++ (lineT f ++ (manyT name k ++ crlf2))) = joinL l0 ((manyF f name k).map fun f => (textOf f).data.toList) ++ (end4 ++ []) := by
  have h := join_many l0 (manyF f name k)
  have e : end4 = crlf2 ++ crlf2 := rfl
  rw [List.append_nil, e, show ∀ X : Bs, X ++ (crlf2 ++ crlf2) = (X ++ crlf2) ++ crlf2 from fun X => (List.append_assoc X crlf2 crlf2).symm, h]
  unfold manyF manyT
  rw [List.map_cons, List.flatten_cons, List.map_replicate]
  simp
theorem good_bare {f : ByteArray × ByteArray} (h : goodF f) : bareL (textOf f).data.toList = true ∧ (textOf f).data.toList ≠ [] := by
  rw [textOf_list]
  have h1 : ∀ c ∈ f.1.data.toList, bareC c = true := by
    have := h.1
    unfold tokenF at this
    simp only [Bool.and_eq_true, List.all_eq_true] at this
    intro c hc
    have hs := this.1 c hc
    unfold bareC
    simp only [Bool.and_eq_true, bne_iff_ne]
    constructor
    · intro e; subst e; exact absurd hs (by decide)
    · intro e; subst e; exact absurd hs (by decide)
  have h2 : ∀ c ∈ f.2.data.toList, bareC c = true := by
    have := h.2
    unfold valueF at this
    simp only [Bool.and_eq_true, List.all_eq_true] at this
    exact fun c hc => text_bare (this.1 c hc)
  refine ⟨?_, fun e => by simp at e⟩
  unfold bareL
  rw [List.all_append, List.all_append, List.all_eq_true.2 h1, List.all_eq_true.2 h2]
  rfl
theorem map_ba (fs : Fs) : (fs.map fun f => (textOf f).data.toList).map ba = fs.map textOf := by
  rw [List.map_map]; rfl
theorem fieldsF_text {fs : Fs} (hg : ∀ f ∈ fs, goodF f) : fieldsF (fs.map fun f => (textOf f).data.toList) = if 100 < fs.length then .error 91 else .ok fs := by
  unfold fieldsF
  rw [List.length_map, map_ba, parseF_text fs hg]
/-- A head of right fields. -/
theorem head_text (l0 : Bs) (fs : Fs) (r : Bs) (h0 : bareL l0 = true) (hg : ∀ f ∈ fs, goodF f) (hn : (joinL l0 (fs.map fun f => (textOf f).data.toList)).length + 4 ≤ 8192) : headF (joinL l0 (fs.map fun f => (textOf f).data.toList) ++ (end4 ++ r)) = .ok (l0 :: (fs.map fun f => (textOf f).data.toList), r) := by
  refine headF_lines l0 _ r h0 (fun l hl => ?_) hn
  obtain ⟨f, hf, rfl⟩ := List.mem_map.1 hl
  exact good_bare (hg f hf)
theorem allF_cons (n : ByteArray) (f : ByteArray × ByteArray) (l : Fs) : allF n (f :: l) = if isNamed n f = true then f.2 :: allF n l else allF n l := by
  unfold allF
  rw [List.filter_cons]
  split <;> rfl
theorem allF_rep {n name v : ByteArray} (h : sameF name.data.toList n.data.toList = false) : ∀ k, allF n (List.replicate k (name, v)) = []
  | 0 => rfl
  | k + 1 => by
    rw [List.replicate_succ, allF_cons, if_neg, allF_rep h k]
    show ¬ sameF name.data.toList n.data.toList = true
    rw [h]; decide
theorem getF_all {n : ByteArray} {l : Fs} (h : allF n l = []) : getF n l = none := by
  unfold getF
  rw [List.find?_eq_none.2]
  · rfl
  · intro x hx hn
    have : x.2 ∈ allF n l := by
      unfold allF
      exact List.mem_map_of_mem (List.mem_filter.2 ⟨hx, hn⟩)
    rw [h] at this
    cases this
theorem many_good {f : ByteArray × ByteArray} {name : ByteArray} {k : Nat} (h : goodF f) (ht : tokenF name.data.toList = true) : ∀ x ∈ manyF f name k, goodF x := by
  intro x hx
  rcases List.mem_cons.1 hx with rfl | hx
  · exact h
  · rw [List.mem_replicate] at hx
    rw [hx.2]
    exact ⟨ht, by kernel_rfl⟩
theorem many_len (f : ByteArray × ByteArray) (name : ByteArray) (k : Nat) : (manyF f name k).length = k + 1 := by unfold manyF; simp
theorem join_len (l0 : Bs) : ∀ (L : List Bs) (c : Nat), (∀ l ∈ L, l.length ≤ c) → (joinL l0 L).length ≤ l0.length + L.length * (c + 2)
  | [], c, _ => by unfold joinL; simp
  | l :: L, c, h => by
    have ih := join_len l L c (fun x hx => h x (by simp [hx]))
    have hl := h l (by simp)
    rw [joinL_cons, List.length_append, List.length_append, List.length_cons]
    have e : crlf2.length = 2 := rfl
    rw [Nat.add_mul]
    omega
theorem many_join {l0 : Bs} {f : ByteArray × ByteArray} {name : ByteArray} {k : Nat} (h0 : l0.length ≤ 20) (hf : (textOf f).size ≤ 20) (hn : name.size ≤ 20) (hk : k ≤ 110) : (joinL l0 ((manyF f name k).map fun f => (textOf f).data.toList)).length + 4 ≤ 8192 := by
  have := join_len l0 ((manyF f name k).map fun f => (textOf f).data.toList) 25 (fun l hl => by
    obtain ⟨x, hx, rfl⟩ := List.mem_map.1 hl
    rw [size_list]
    rcases List.mem_cons.1 hx with rfl | hx
    · omega
    · rw [List.mem_replicate] at hx
      rw [hx.2]
      have h1 : (textOf (name, vB)).size = name.size + 2 + vB.size := textOf_size _
      have : vB.size = 1 := rfl
      omega)
  rw [List.length_map, many_len] at this
  omega
structure NameOk (name : ByteArray) : Prop where
  tok : tokenF name.data.toList = true
  host : sameF name.data.toList nHost.data.toList = false
  cl : sameF name.data.toList nCL.data.toList = false
  te : sameF name.data.toList nTE.data.toList = false
  size : name.size ≤ 20
theorem many_all {n name : ByteArray} {f : ByteArray × ByteArray} {k : Nat} (h : sameF name.data.toList n.data.toList = false) : allF n (manyF f name k) = if isNamed n f = true then [f.2] else [] := by
  unfold manyF
  rw [allF_cons, allF_rep h]
theorem req_many {name : ByteArray} (h : NameOk name) (k : Nat) (hk : k ≤ 110) : ∃ n, requestF (getL ++ (crlf2 ++ (lineT hostFi ++ (manyT name k ++ crlf2)))) = if 100 < k + 1 then .error 91 else .ok ([71, 69, 84], [47], manyF hostFi name k, [], n) := by
  have hg := many_good (k := k) (f := hostFi) ⟨by kernel_rfl, by kernel_rfl⟩ h.tok
  have hh := head_text getL (manyF hostFi name k) [] (by decide) hg (many_join (by decide) (by decide) h.size hk)
  rw [← many_msg] at hh
  have hfst : firstF getL = some ([71, 69, 84], [47]) := by kernel_rfl
  have hfs := fieldsF_text hg
  rw [many_len] at hfs
  refine ⟨(getL ++ (crlf2 ++ (lineT hostFi ++ (manyT name k ++ crlf2)))).length - 0 + 0, ?_⟩
  generalize (getL ++ (crlf2 ++ (lineT hostFi ++ (manyT name k ++ crlf2)))) = b at hh ⊢
  have h5 : reqL b getL ((manyF hostFi name k).map fun f => (textOf f).data.toList) [] = if 100 < k + 1 then .error 91 else .ok ([71, 69, 84], [47], manyF hostFi name k, [], b.length - 0 + 0) := by
    unfold reqL
    rw [hfst, hfs]
    by_cases hc : 100 < k + 1
    · rw [if_pos hc, if_pos hc]; rfl
    · rw [if_neg hc, if_neg hc]
      have a1 : allF nHost (manyF hostFi name k) = [⟨#[104]⟩] := by rw [many_all h.host, if_pos (by kernel_rfl)]; rfl
      have a2 : allF nTE (manyF hostFi name k) = [] := by rw [many_all h.te, if_neg (by rw [show isNamed nTE hostFi = false by kernel_rfl]; decide)]
      have a3 : allF nCL (manyF hostFi name k) = [] := by rw [many_all h.cl, if_neg (by rw [show isNamed nCL hostFi = false by kernel_rfl]; decide)]
      have a4 : framedF (manyF hostFi name k) [] = .ok ([], 0) := by
        unfold framedF sizeF listF
        rw [a2, a3]
        rfl
      show (if (allF nHost (manyF hostFi name k)).length = 1 then reqB [71, 69, 84] [47] (manyF hostFi name k) b [] (framedF (manyF hostFi name k) []) else .error 90) = _
      rw [a1, if_pos (by rfl), a4]
      rfl
  unfold requestF
  rw [hh]
  exact h5
theorem rsp_many {name : ByteArray} (h : NameOk name) (k : Nat) (hk : k ≤ 110) : responseF (okL ++ (crlf2 ++ (lineT serverF ++ (manyT name k ++ crlf2)))) getM = if 100 < k + 1 then .error 91 else .ok (200, [79, 75], manyF serverF name k, []) := by
  have hg := many_good (k := k) (f := serverF) ⟨by kernel_rfl, by kernel_rfl⟩ h.tok
  have hh := head_text okL (manyF serverF name k) [] (by decide) hg (many_join (by decide) (by decide) h.size hk)
  rw [← many_msg] at hh
  have hfst : statusF okL = some (200, [79, 75]) := by kernel_rfl
  have hfs := fieldsF_text hg
  rw [many_len] at hfs
  have h5 : rspL getM okL ((manyF serverF name k).map fun f => (textOf f).data.toList) [] = if 100 < k + 1 then .error 91 else .ok (200, [79, 75], manyF serverF name k, []) := by
    unfold rspL
    rw [hfst, hfs]
    by_cases hc : 100 < k + 1
    · rw [if_pos hc, if_pos hc]; rfl
    · rw [if_neg hc, if_neg hc]
      have a2 : allF nTE (manyF serverF name k) = [] := by rw [many_all h.te, if_neg (by rw [show isNamed nTE serverF = false by kernel_rfl]; decide)]
      have a3 : allF nCL (manyF serverF name k) = [] := by rw [many_all h.cl, if_neg (by rw [show isNamed nCL serverF = false by kernel_rfl]; decide)]
      have a4 : rspW (manyF serverF name k) [] = .ok ([], 0) := by
        unfold rspW
        rw [if_pos ⟨getF_all a2, getF_all a3⟩]
        rfl
      show (if bodilessF 200 getM = true then (.ok (200, [79, 75], manyF serverF name k, []) : Except Nat Rsp) else rspB 200 [79, 75] (manyF serverF name k) (rspW (manyF serverF name k) [])) = _
      rw [a4]
      split <;> rfl
  unfold responseF
  rw [hh]
  exact h5
end Go.Proofs.YtjpmofnnjdhamaaDoor
