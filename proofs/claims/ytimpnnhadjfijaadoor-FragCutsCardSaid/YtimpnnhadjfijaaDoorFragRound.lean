/-
  What was written is read back, whatever stands behind; what is cut off isn't.
-/
import Derived.Test.YtimpnnhadjfijaaDoorFragOpenFrag
namespace Go.Proofs.YtimpnnhadjfijaaDoor
open Go.RowKit CrcMath

theorem cut_at {A B C L : List UInt8} {i k : Nat} (hL : L = A ++ (B ++ C)) (hA : A.length = i) (hB : B.length = k) : cutF L i k = B := by
  subst hL; subst hA; subst hB
  unfold cutF
  rw [List.drop_left, List.take_left]
theorem take_at {A B L : List UInt8} {i : Nat} (hL : L = A ++ B) (hA : A.length = i) : L.take i = A := by
  subst hL; subst hA; exact List.take_left
structure Fields (K : List UInt8) (P : Nat) (last : Bool) (turn : Nat) (body L : List UInt8) : Prop where
  mark : L.take 4 = markL
  key : cutF L 4 32 = K
  part : ofBE (cutF L 36 4) = P
  last : ofBE (cutF L 40 1) = lastN last
  size : sizeO L = body.length
  sum : cutF L 45 32 = shaF body
  turn : ofBE (cutF L 77 8) = turn
  crc : ofBE (cutF L 85 4) = crcF (L.take 85)
theorem fields_of {K : List UInt8} {P : Nat} {last : Bool} {turn : Nat} {body X : List UInt8} (hK : K.length = 32) (hP : P < 4294967296) (ht : turn < 18446744073709551616) (hb : body.length ≤ 4096) : Fields K P last turn body (fragB K P last turn body ++ X) := by
  obtain ⟨S, hS⟩ : ∃ S, shaF body = S := ⟨_, rfl⟩
  have hSl : S.length = 32 := by rw [← hS]; exact shaF_len body
  obtain ⟨H, hH⟩ : ∃ H, headF K S P last body.length turn = H := ⟨_, rfl⟩
  have hHl : H.length = 85 := by rw [← hH]; exact headF_len _ _ _ _ _ _ hK hSl
  have hC : crcF H < 4294967296 := by unfold crcF; exact Nat.xor_lt_two_pow (n := 32) (by decide) (crcG_lt H)
  obtain ⟨L, hL⟩ : ∃ L, fragB K P last turn body ++ X = L := ⟨_, rfl⟩
  have hL1 : L = H ++ (beN 4 (crcF H) ++ (body ++ X)) := by
    rw [← hL]; unfold fragB; rw [hS, hH]; simp only [List.append_assoc]
  have hL2 : L = markL ++ (K ++ (beN 4 P ++ (beN 1 (lastN last) ++ (beN 4 body.length ++ (S ++ (beN 8 turn ++ (beN 4 (crcF H) ++ (body ++ X)))))))) := by
    rw [hL1, ← hH]; unfold headF markL; simp only [List.append_assoc]
  have e4 : 256 ^ 4 = 4294967296 := by decide
  have e8 : 256 ^ 8 = 18446744073709551616 := by decide
  rw [hL]
  have hm : markL.length = 4 := rfl
  refine ⟨take_at hL2 hm, cut_at hL2 hm hK, ?_, ?_, ?_, ?_, ?_, ?_⟩
  · rw [cut_at (A := markL ++ K) (B := beN 4 P) (C := beN 1 (lastN last) ++ (beN 4 body.length ++ (S ++ (beN 8 turn ++ (beN 4 (crcF H) ++ (body ++ X)))))) (by rw [hL2]; simp only [List.append_assoc]) (by simp [hm, hK]) (beN_len _ _)]
    exact ofBE_beN 4 P (by rw [e4]; exact hP)
  · rw [cut_at (A := markL ++ (K ++ beN 4 P)) (B := beN 1 (lastN last)) (C := beN 4 body.length ++ (S ++ (beN 8 turn ++ (beN 4 (crcF H) ++ (body ++ X))))) (by rw [hL2]; simp only [List.append_assoc]) (by simp [hm, hK, beN_len]) (beN_len _ _)]
    exact ofBE_beN 1 _ (by unfold lastN; split <;> decide)
  · unfold sizeO
    rw [cut_at (A := markL ++ (K ++ (beN 4 P ++ beN 1 (lastN last)))) (B := beN 4 body.length) (C := S ++ (beN 8 turn ++ (beN 4 (crcF H) ++ (body ++ X)))) (by rw [hL2]; simp only [List.append_assoc]) (by simp [hm, hK, beN_len]) (beN_len _ _)]
    exact ofBE_beN 4 _ (by rw [e4]; omega)
  · rw [hS]
    exact cut_at (A := markL ++ (K ++ (beN 4 P ++ (beN 1 (lastN last) ++ beN 4 body.length)))) (B := S) (C := beN 8 turn ++ (beN 4 (crcF H) ++ (body ++ X))) (by rw [hL2]; simp only [List.append_assoc]) (by simp [hm, hK, beN_len]) hSl
  · rw [cut_at (A := markL ++ (K ++ (beN 4 P ++ (beN 1 (lastN last) ++ (beN 4 body.length ++ S))))) (B := beN 8 turn) (C := beN 4 (crcF H) ++ (body ++ X)) (by rw [hL2]; simp only [List.append_assoc]) (by simp [hm, hK, beN_len, hSl]) (beN_len _ _)]
    exact ofBE_beN 8 _ (by rw [e8]; exact ht)
  · rw [cut_at hL1 hHl (beN_len _ _), take_at hL1 hHl]
    exact ofBE_beN 4 _ (by rw [e4]; exact hC)
theorem Fields.readD {K : List UInt8} {P : Nat} {last : Bool} {turn : Nat} {body L : List UInt8} (h : Fields K P last turn body L) : readD L = { K := K, part := (P : Int), last := last, size := (body.length : Int), S := shaF body, turn := turn } := by
  unfold Go.Proofs.YtimpnnhadjfijaaDoor.readD
  rw [h.key, h.part, h.last, h.size, h.sum, h.turn]
  cases last <;> rfl
theorem Fields.ok {K : List UInt8} {P : Nat} {last : Bool} {turn : Nat} {body L : List UInt8} (h : Fields K P last turn body L) (hb : body.length ≤ 4096) (hl : 89 + body.length ≤ L.length) (hc : cutF L 89 body.length = body) : openOK L = true := by
  have h1 : lastN last ≤ 1 := by unfold lastN; split <;> omega
  unfold openOK headOK
  rw [h.mark, h.crc, h.last, h.size, h.sum, hc, decide_eq_true (show 89 ≤ L.length by omega), decide_eq_true rfl, decide_eq_true rfl, decide_eq_true h1, decide_eq_true hb, decide_eq_true (show body.length ≤ L.length - 89 by omega), decide_eq_true rfl]
  rfl
theorem body_at {K : List UInt8} {P : Nat} {last : Bool} {turn : Nat} {body X : List UInt8} (hK : K.length = 32) : cutF (fragB K P last turn body ++ X) 89 body.length = body := by
  refine cut_at (A := headF K (shaF body) P last body.length turn ++ beN 4 (crcF (headF K (shaF body) P last body.length turn))) (C := X) ?_ ?_ rfl
  · unfold fragB; simp only [List.append_assoc]
  · rw [List.length_append, headF_len _ _ _ _ _ _ hK (shaF_len body), beN_len]
theorem round {K : List UInt8} {P : Nat} {last : Bool} {turn : Nat} {body X : List UInt8} (hK : K.length = 32) (hP : P < 4294967296) (ht : turn < 18446744073709551616) (hb : body.length ≤ 4096) :
    openD (fragB K P last turn body ++ X) = { K := K, part := (P : Int), last := last, size := (body.length : Int), S := shaF body, turn := turn } ∧ openP (fragB K P last turn body ++ X) = body ∧ openE (fragB K P last turn body ++ X) = 0 := by
  have hf := fields_of (last := last) (X := X) hK hP ht hb
  have ho := hf.ok hb (by rw [List.length_append, fragB_len _ _ _ _ _ hK]; omega) (body_at hK)
  refine ⟨?_, ?_, ?_⟩
  · unfold openD; rw [if_pos ho]; exact hf.readD
  · unfold openP; rw [if_pos ho, hf.size]; exact body_at hK
  · unfold openE; rw [if_pos ho]
/-- Cut off anywhere it isn't read. -/
theorem cut_bad {K : List UInt8} {P : Nat} {last : Bool} {turn : Nat} {body : List UInt8} (hK : K.length = 32) (hP : P < 4294967296) (ht : turn < 18446744073709551616) (hb : body.length ≤ 4096) (k : Nat) (hk : k < (fragB K P last turn body).length) :
    openOK ((fragB K P last turn body).take k) = false := by
  obtain ⟨L, hL⟩ : ∃ L, fragB K P last turn body = L := ⟨_, rfl⟩
  have hf := fields_of (last := last) (X := []) hK hP ht hb
  rw [List.append_nil, hL] at hf
  have hlen := fragB_len K P last turn body hK
  rw [hL] at hlen hk ⊢
  unfold openOK
  by_cases h89 : 89 ≤ k
  · have hs : sizeO (L.take k) = body.length := by
      rw [← hf.size]
      unfold sizeO cutF
      congr 1
      rw [List.drop_take, List.take_take, Nat.min_eq_left (by omega)]
    have hh : headOK (L.take k) = false := by
      unfold headOK
      rw [hs, decide_eq_false (show ¬ body.length ≤ (L.take k).length - 89 by rw [List.length_take]; omega)]
      simp
    rw [hh]
    simp
  · rw [decide_eq_false (by rw [List.length_take]; omega)]
    rfl
theorem openFrag_any (a : Option Addr) (n c : Nat) (l : List UInt8) (w : World) (hT : Steps w) (hl : BytesAt w a l) (hn : n = l.length) (hnc : n ≤ c) (hmax : n ≤ 140737488351232) :
    Calls Tryd.prog 13 #[.slice a n c] w (OpenPost l w) := by
  by_cases hs : n < 89
  · exact openFrag_short a n c l w hn hs
  · obtain ⟨b, off, rfl, _⟩ := hl 0 (by omega)
    exact openFrag_long b off n c l w hT hl hn hnc (by omega) hmax
end Go.Proofs.YtimpnnhadjfijaaDoor
