/-
  Great messages: mathematics.
-/
import Derived.Lib.ItoaMem
import Derived.Test.YtjpmofnnjdhamaaGreatDoorMg28
namespace Go.Proofs.YtjpmofnnjdhamaaGreatDoor
open Go.RowKit HeadMath NormMath NormS HeadS ChunkMath HttpMath

def padL (m : Nat) : Bs := List.replicate m 120
def xF (m : Nat) : ByteArray × ByteArray := (⟨#[88]⟩, ⟨(padL m).toArray⟩)
def sG : Bs := [71, 69, 84, 32, 47, 32, 72, 84, 84, 80, 47, 49, 46, 49, 13, 10, 72, 111, 115, 116, 58, 32, 104, 13, 10, 88, 58, 32]
theorem pad_all (m : Nat) (p : UInt8 → Bool) (h : p 120 = true) : (padL m).all p = true := by
  rw [List.all_eq_true]
  intro c hc
  unfold padL at hc
  rw [List.mem_replicate] at hc
  rw [hc.2]; exact h
theorem pad_value (m : Nat) : valueF (padL m) = true := by
  unfold valueF
  rw [pad_all m textB (by decide), Bool.true_and, beq_iff_eq, eq_trimF]
  have hb : ∀ c ∈ padL m, blankB c = false := fun c hc => by
    unfold padL at hc
    rw [List.mem_replicate] at hc
    rw [hc.2]; decide
  exact ⟨fun c hc => hb c (List.mem_of_mem_head? hc), fun c hc => hb c (List.mem_of_getLast? hc)⟩
theorem great_msg (m : Nat) : sG ++ (padL m ++ end4) = joinL getL ([hostFi, xF m].map fun f => (textOf f).data.toList) ++ (end4 ++ []) := by
  unfold joinL
  simp [textOf_list, sG, getL, hostFi, xF, nHost, crlf2]
theorem great_len (m : Nat) : (joinL getL ([hostFi, xF m].map fun f => (textOf f).data.toList)).length = 28 + m := by
  have h := congrArg List.length (great_msg m)
  simp only [List.length_append] at h
  have e1 : sG.length = 28 := rfl
  have e2 : end4.length = 4 := rfl
  have e3 : (padL m).length = m := by simp [padL]
  rw [e1, e2, e3, List.length_nil] at h
  omega
theorem great_good (m : Nat) : ∀ f ∈ ([hostFi, xF m] : Fs), goodF f := by
  intro f hf
  simp at hf
  rcases hf with rfl | rfl
  · exact ⟨by kernel_rfl, by kernel_rfl⟩
  · exact ⟨by kernel_rfl, pad_value m⟩
theorem req_great (m : Nat) : requestF (sG ++ (padL m ++ end4)) = if 8192 < 32 + m then .error 93 else .ok ([71, 69, 84], [47], [hostFi, xF m], [], 32 + m) := by
  have hlen : (sG ++ (padL m ++ end4)).length = 32 + m := by
    have e1 : sG.length = 28 := rfl
    have e2 : end4.length = 4 := rfl
    have e3 : (padL m).length = m := by simp [padL]
    rw [List.length_append, List.length_append, e1, e2, e3]
    omega
  by_cases hc : 8192 < 32 + m
  · rw [if_pos hc]
    have hh := headF_long getL ([hostFi, xF m].map fun f => (textOf f).data.toList) [] (by decide) (fun l hl => by
      obtain ⟨f, hf, rfl⟩ := List.mem_map.1 hl
      exact good_bare (great_good m f hf)) (by rw [great_len]; omega)
    rw [← great_msg] at hh
    unfold requestF
    rw [hh]
    rfl
  · rw [if_neg hc]
    have hh := head_text getL [hostFi, xF m] [] (by decide) (great_good m) (by rw [great_len]; omega)
    rw [← great_msg] at hh
    have hfst : firstF getL = some ([71, 69, 84], [47]) := by kernel_rfl
    have hfs := fieldsF_text (great_good m)
    rw [if_neg (by simp)] at hfs
    generalize (sG ++ (padL m ++ end4)) = b at hh hlen ⊢
    have a0 : ∀ n : ByteArray, isNamed n (xF m) = sameF [88] n.data.toList := fun n => rfl
    have a1 : allF nHost [hostFi, xF m] = [⟨#[104]⟩] := by
      rw [allF_cons, if_pos (by kernel_rfl), allF_cons, if_neg (by rw [a0, show sameF [88] nHost.data.toList = false by kernel_rfl]; decide)]
      rfl
    have a2 : allF nTE [hostFi, xF m] = [] := by
      rw [allF_cons, if_neg (by rw [show isNamed nTE hostFi = false by kernel_rfl]; decide), allF_cons, if_neg (by rw [a0, show sameF [88] nTE.data.toList = false by kernel_rfl]; decide)]
      rfl
    have a3 : allF nCL [hostFi, xF m] = [] := by
      rw [allF_cons, if_neg (by rw [show isNamed nCL hostFi = false by kernel_rfl]; decide), allF_cons, if_neg (by rw [a0, show sameF [88] nCL.data.toList = false by kernel_rfl]; decide)]
      rfl
    have a4 : framedF [hostFi, xF m] [] = .ok ([], 0) := by
      unfold framedF sizeF listF
      rw [a2, a3]
      rfl
    have h5 : reqL b getL ([hostFi, xF m].map fun f => (textOf f).data.toList) [] = .ok ([71, 69, 84], [47], [hostFi, xF m], [], 32 + m) := by
      unfold reqL
      rw [hfst, hfs]
      show (if (allF nHost [hostFi, xF m]).length = 1 then reqB [71, 69, 84] [47] [hostFi, xF m] b [] (framedF [hostFi, xF m] []) else .error 90) = _
      rw [a1, if_pos (by rfl), a4]
      show Except.ok ([71, 69, 84], [47], [hostFi, xF m], [], b.length - 0 + 0) = _
      rw [hlen]
      rfl
    unfold requestF
    rw [hh]
    exact h5
def zerosL (b : Nat) : Bs := List.replicate b 0
theorem rsp_great (b : Nat) : responseF (okL ++ (end4 ++ zerosL b)) getM = if 65536 < b then .error 93 else .ok (200, [79, 75], [], zerosL b) := by
  have hh := headF_lines okL [] (zerosL b) (by decide) (by simp) (by decide)
  have e : joinL okL [] = okL := by unfold joinL; simp
  rw [e] at hh
  have hfst : statusF okL = some (200, [79, 75]) := by kernel_rfl
  have hl : (zerosL b).length = b := by simp [zerosL]
  have h5 : rspL getM okL [] (zerosL b) = if 65536 < b then .error 93 else .ok (200, [79, 75], [], zerosL b) := by
    unfold rspL
    rw [hfst]
    have a4 : rspW [] (zerosL b) = if 65536 < b then .error 93 else .ok (zerosL b, b) := by
      unfold rspW
      rw [if_pos ⟨rfl, rfl⟩, hl]
    show (if bodilessF 200 getM = true then (.ok (200, [79, 75], [], []) : Except Nat Rsp) else rspB 200 [79, 75] [] (rspW [] (zerosL b))) = _
    rw [if_neg (by rw [show bodilessF 200 getM = false by kernel_rfl]; decide), a4]
    by_cases hc : 65536 < b
    · rw [if_pos hc, if_pos hc]; rfl
    · rw [if_neg hc, if_neg hc]; rfl
  unfold responseF
  rw [hh]
  exact h5
def putL : Bs := [80, 85, 84, 32, 47, 32, 72, 84, 84, 80, 47, 49, 46, 49]
def sP : Bs := [80, 85, 84, 32, 47, 32, 72, 84, 84, 80, 47, 49, 46, 49, 13, 10, 72, 111, 115, 116, 58, 32, 104, 13, 10, 67, 111, 110, 116, 101, 110, 116, 45, 76, 101, 110, 103, 116, 104, 58, 32]
def clF (D : Bs) : ByteArray × ByteArray := (nCL, ⟨D.toArray⟩)
theorem put_msg (D r : Bs) : sP ++ (D ++ (end4 ++ r)) = joinL putL ([hostFi, clF D].map fun f => (textOf f).data.toList) ++ (end4 ++ r) := by
  unfold joinL
  simp [textOf_list, sP, putL, hostFi, clF, nHost, nCL, crlf2]
theorem digits_value {D : Bs} (hd : ∀ c ∈ D, DateMath.digitD c = true) : valueF D = true := by
  have ht : ∀ c ∈ D, textB c = true ∧ blankB c = false := by
    intro c hc
    have := hd c hc
    unfold DateMath.digitD at this
    rw [decide_eq_true_iff] at this
    constructor
    · unfold textB
      rw [Bool.or_eq_true]
      right
      simp only [Bool.not_eq_true', Bool.or_eq_false_iff, decide_eq_false_iff_not, beq_eq_false_iff_ne]
      exact ⟨by omega, fun e => by subst e; exact absurd this (by decide)⟩
    · unfold blankB
      rw [Bool.or_eq_false_iff]
      constructor <;> (rw [beq_eq_false_iff_ne]; intro e; subst e; exact absurd this (by decide))
  unfold valueF
  rw [List.all_eq_true.2 (fun c hc => (ht c hc).1), Bool.true_and, beq_iff_eq, eq_trimF]
  exact ⟨fun c hc => (ht c (List.mem_of_mem_head? hc)).2, fun c hc => (ht c (List.mem_of_getLast? hc)).2⟩
theorem req_put {D : Bs} {b : Nat} (h0 : D ≠ []) (hd : ∀ c ∈ D, DateMath.digitD c = true) (hD : D.length ≤ 20) (hv : DateMath.numF D 18 = some b) : ∃ n, requestF (sP ++ (D ++ (end4 ++ zerosL b))) = if 65536 < b then .error 93 else .ok ([80, 85, 84], [47], [hostFi, clF D], zerosL b, n) := by
  have hg : ∀ f ∈ ([hostFi, clF D] : Fs), goodF f := by
    intro f hf
    simp at hf
    rcases hf with rfl | rfl
    · exact ⟨by kernel_rfl, by kernel_rfl⟩
    · exact ⟨by kernel_rfl, digits_value hd⟩
  have hjl := join_len putL ([hostFi, clF D].map fun f => (textOf f).data.toList) 40 (fun l hl => by
    obtain ⟨x, hx, rfl⟩ := List.mem_map.1 hl
    rw [size_list]
    simp at hx
    rcases hx with rfl | rfl
    · decide
    · have h1 : (textOf (clF D)).size = nCL.size + 2 + (⟨D.toArray⟩ : ByteArray).size := textOf_size _
      have h2 : nCL.size = 14 := rfl
      have h3 : (⟨D.toArray⟩ : ByteArray).size = D.length := ba_size D
      omega)
  have hpl : putL.length = 14 := rfl
  have hh := head_text putL [hostFi, clF D] (zerosL b) (by decide) hg (by
    rw [hpl] at hjl
    simp only [List.length_map, List.length_cons, List.length_nil] at hjl
    omega)
  rw [← put_msg] at hh
  have hfst : firstF putL = some ([80, 85, 84], [47]) := by kernel_rfl
  have hfs := fieldsF_text hg
  rw [if_neg (by simp)] at hfs
  have hl : (zerosL b).length = b := by simp [zerosL]
  generalize (sP ++ (D ++ (end4 ++ zerosL b))) = B at hh ⊢
  have a0 : ∀ n : ByteArray, isNamed n (clF D) = sameF nCL.data.toList n.data.toList := fun n => rfl
  have a1 : allF nHost [hostFi, clF D] = [⟨#[104]⟩] := by
    rw [allF_cons, if_pos (by kernel_rfl), allF_cons, if_neg (by rw [a0, show sameF nCL.data.toList nHost.data.toList = false by kernel_rfl]; decide)]
    rfl
  have a2 : allF nTE [hostFi, clF D] = [] := by
    rw [allF_cons, if_neg (by rw [show isNamed nTE hostFi = false by kernel_rfl]; decide), allF_cons, if_neg (by rw [a0, show sameF nCL.data.toList nTE.data.toList = false by kernel_rfl]; decide)]
    rfl
  have a3 : allF nCL [hostFi, clF D] = [⟨D.toArray⟩] := by
    rw [allF_cons, if_neg (by rw [show isNamed nCL hostFi = false by kernel_rfl]; decide), allF_cons, if_pos (by rw [a0]; kernel_rfl)]
    rfl
  have a5 : sizeF [hostFi, clF D] = .ok b := by
    have hp := parts_num (v := ⟨D.toArray⟩) (by simpa using h0) (by simpa using hd)
    unfold sizeF listF
    rw [a3, List.flatMap_cons, List.flatMap_nil, hp]
    show (match DateMath.numF D 18 with
      | none => Except.error 94
      | some n => .ok n) = _
    rw [hv]
  have a4 : framedF [hostFi, clF D] (zerosL b) = if 65536 < b then .error 93 else .ok (zerosL b, b) := by
    unfold framedF
    rw [a2, if_pos (by rfl), a5]
    show (if 65536 < b then Except.error 93 else if (zerosL b).length < b then .error 92 else .ok ((zerosL b).take b, b)) = _
    rw [hl, if_neg (Nat.lt_irrefl b), List.take_of_length_le (by omega)]
  refine ⟨B.length - (zerosL b).length + b, ?_⟩
  have h5 : reqL B putL ([hostFi, clF D].map fun f => (textOf f).data.toList) (zerosL b) = if 65536 < b then .error 93 else .ok ([80, 85, 84], [47], [hostFi, clF D], zerosL b, B.length - (zerosL b).length + b) := by
    unfold reqL
    rw [hfst, hfs]
    show (if (allF nHost [hostFi, clF D]).length = 1 then reqB [80, 85, 84] [47] [hostFi, clF D] B (zerosL b) (framedF [hostFi, clF D] (zerosL b)) else .error 90) = _
    rw [a1, if_pos (by rfl), a4]
    by_cases hc : 65536 < b
    · rw [if_pos hc, if_pos hc]; rfl
    · rw [if_neg hc, if_neg hc]; rfl
  unfold requestF
  rw [hh]
  exact h5
theorem dec_two {n : Nat} (h : 10 ≤ n) : Lib.decDigits n = Lib.decDigits (n / 10) ++ [UInt8.ofNat (48 + n % 10)] := by rw [Lib.decDigits, dif_neg (by omega)]
theorem dec_five {b : Nat} (h1 : 65534 ≤ b) (h2 : b ≤ 65538) : Lib.decDigits b ≠ [] ∧ (∀ c ∈ Lib.decDigits b, DateMath.digitD c = true) ∧ (Lib.decDigits b).length ≤ 20 ∧ DateMath.numF (Lib.decDigits b) 18 = some b := by
  have e : Lib.decDigits b = [54, 53, 53, 51, UInt8.ofNat (48 + b % 10)] := by
    rw [dec_two (by omega), show b / 10 = 6553 by omega, dec_two (by decide), dec_two (by decide), dec_two (by decide), Lib.decDigits_one (by decide)]
    rfl
  rw [e]
  obtain ⟨t, ht⟩ : ∃ t, b % 10 = t := ⟨_, rfl⟩
  have hb : b = 65530 + t := by omega
  have ht1 : 4 ≤ t ∧ t ≤ 8 := by omega
  rw [ht, hb]
  clear ht hb h1 h2 e
  match t, ht1 with
  | 4, _ => exact ⟨by decide, by decide, by decide, by kernel_rfl⟩
  | 5, _ => exact ⟨by decide, by decide, by decide, by kernel_rfl⟩
  | 6, _ => exact ⟨by decide, by decide, by decide, by kernel_rfl⟩
  | 7, _ => exact ⟨by decide, by decide, by decide, by kernel_rfl⟩
  | 8, _ => exact ⟨by decide, by decide, by decide, by kernel_rfl⟩
end Go.Proofs.YtjpmofnnjdhamaaGreatDoor
