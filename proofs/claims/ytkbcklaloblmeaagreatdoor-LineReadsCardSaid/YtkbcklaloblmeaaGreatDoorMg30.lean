/-
  The reference's Quote; line.Unquote.
  The reference's quoted and Unquote.
  The reference's Unquote.
-/
import Derived.Deep.AppendLies
import Derived.Test.YtkbcklaloblmeaaGreatDoorMg4
import Derived.Test.YtkbcklaloblmeaaGreatDoorMg11
import Derived.Test.YtkbcklaloblmeaaGreatDoorMg29
namespace Go.Proofs.YtkbcklaloblmeaaGreatDoor
open Go.RowKit HeadMath NormMath NormS LineMath ChunkS

def unqV (l : Bs) : Value := match unquoteF l with
  | some v => .tuple #[.string (arrS v), .bool true]
  | none => .tuple #[.string ⟨#[]⟩, .bool false]
def UnqPost (l : Bs) (w : World) (e : Ending) (w' : World) : Prop := e = .returned (unqV l) ∧ Below w.heap.size w w'
set_option maxHeartbeats 4000000 in
theorem unquote_any (s : ByteArray) (w : World) (hs : s.size ≤ 140737488351232) : Calls Tryz.prog 14 #[.string s] w (UnqPost s.data.toList w) := by
  have cQ := quoted_any s w hs
  unfold QuotedPost quotedV at cQ
  unfold UnqPost
  cases hq : quotedF s.data.toList with
  | none =>
    have HV : Hid (unqV s.data.toList = .tuple #[.string ⟨#[]⟩, .bool false]) := Lib.hid (by unfold unqV unquoteF; rw [hq])
    rw [hq] at cQ
    clear hq
    go_enter Tryz.func14, Tryz.ntmps14
    go_wp2_with fail
    refine cQ.mono ?_
    rintro e w1 ⟨rfl, hb⟩
    go_wp2
    go_ret2
    exact ⟨by rw [HV.out]; rfl, hb⟩
  | some p =>
    obtain ⟨v, t⟩ := p
    rw [hq] at cQ
    simp only at cQ
    cases t with
    | nil =>
      have HV : Hid (unqV s.data.toList = .tuple #[.string (arrS v), .bool true]) := Lib.hid (by unfold unqV unquoteF; rw [hq])
      have ze : (!(arrS ([] : Bs)).toList.isEmpty) = false := by rw [Lib.toList_data, arrS_list]; rfl
      clear hq
      obtain ⟨V, hV⟩ : ∃ V, arrS v = V := ⟨_, rfl⟩
      obtain ⟨T, hT⟩ : ∃ T, arrS ([] : Bs) = T := ⟨_, rfl⟩
      rw [hV, hT] at cQ
      rw [hV] at HV
      rw [hT] at ze
      clear hV hT
      go_enter Tryz.func14, Tryz.ntmps14
      go_wp2_with fail
      refine cQ.mono ?_
      rintro e w1 ⟨rfl, hb⟩
      go_wp2
      go_ret2
      exact ⟨by rw [HV.out]; rfl, hb⟩
    | cons c t =>
      have HV : Hid (unqV s.data.toList = .tuple #[.string ⟨#[]⟩, .bool false]) := Lib.hid (by unfold unqV unquoteF; rw [hq])
      have ze : (!(arrS (c :: t)).toList.isEmpty) = true := by rw [Lib.toList_data, arrS_list]; rfl
      clear hq
      obtain ⟨V, hV⟩ : ∃ V, arrS v = V := ⟨_, rfl⟩
      obtain ⟨T, hT⟩ : ∃ T, arrS (c :: t) = T := ⟨_, rfl⟩
      rw [hV, hT] at cQ
      rw [hT] at ze
      clear hV hT
      go_enter Tryz.func14, Tryz.ntmps14
      go_wp2_with fail
      refine cQ.mono ?_
      rintro e w1 ⟨rfl, hb⟩
      go_wp2
      go_ret2
      exact ⟨by rw [HV.out]; rfl, hb⟩

def cellsB (l : Bs) : Array Value := (Lib.byteCells l).toArray
theorem row_lit (B : Nat) (w : World) (l : Bs) (hB : B ≤ w.heap.size) (hn : l.length ≤ maxLen) : Row8 B (w.alloc (.cells (cellsB l) 5)) (.slice (some ⟨w.heap.size, 0, none⟩) l.length l.length) l := by
  refine ⟨by rw [Lib.byteCells_length, Nat.mul_one], .inr ⟨w.heap.size, l.length, cellsB l, rfl, hB, heap_alloc_new w _, Nat.le_refl _, hn, by simp [cellsB, Lib.byteCells_length], ?_⟩⟩
  unfold cellsB
  rw [List.toList_toArray, List.take_of_length_le (by rw [Lib.byteCells_length]; omega)]
theorem at_lit (w : World) (l : Bs) (hn : l.length ≤ maxLen) : BytesAt (w.alloc (.cells (cellsB l) 5)) (some ⟨w.heap.size, 0, none⟩) l := bytesAt_own (row_lit w.heap.size w l (Nat.le_refl _) hn)
def lowDigits : ByteArray := { data := #[48, 49, 50, 51, 52, 53, 54, 55, 56, 57, 97, 98, 99, 100, 101, 102] }
theorem lowDigits_at (a : Nat) (h : a < lowDigits.size) : lowDigits[a] = LineMath.hexD a := by
  have H : ∀ a : Fin 16, lowDigits[a.1]'(by have := a.2; exact this) = LineMath.hexD a.1 := by decide
  exact H ⟨a, h⟩
theorem four_new (w : World) (t : TypeId) (a b c d : Value) : ∀ j u, [a, b, c, d][j]? = some u → (w.alloc (.cells #[a, b, c, d] t)).cell? ((⟨w.heap.size, 0, none⟩ : Addr).add j) = some u := by
  intro j u hj
  match j, hj with
  | 0, hj => simp at hj; subst hj; simp [Addr.add]
  | 1, hj => simp at hj; subst hj; simp [Addr.add]
  | 2, hj => simp at hj; subst hj; simp [Addr.add]
  | 3, hj => simp at hj; subst hj; simp [Addr.add]
  | j + 4, hj => simp at hj
set_option maxRecDepth 100000 in
set_option maxHeartbeats 4000000 in
theorem refQuote_any (s : ByteArray) (w : World) (hs : s.size ≤ 1000000000) :
    Calls Tryz.prog 16 #[.string s] w fun e w' => e = .returned (.string ⟨(quoteT s.data.toList).toArray⟩) ∧ Below w.heap.size w w' := by
  have HZ := Lib.hid (size_list s)
  have HR0 : Hid (Row8 w.heap.size (w.alloc (.cells #[.int .u8 34] 5)) (.slice (some ⟨w.heap.size, 0, none⟩) 1 1) [34]) := Lib.hid (row_lit w.heap.size w [34] (Nat.le_refl _) (by decide))
  have HS0 : Hid (Spares (atLeast w.heap.size) w (w.alloc (.cells #[.int .u8 34] 5))) := Lib.hid ((Spares.refl _ _).alloc _)
  go_enter Tryz.func16, Tryz.ntmps16
  go_wp2
  go_loopw [3, 4] (fun v i wr => ∃ (k : Nat), k ≤ s.size ∧ i = .int .i64 k ∧ Hid (Row8 w.heap.size wr v (34 :: bodyT (s.data.toList.take k))) ∧ Hid (Spares (atLeast w.heap.size) w wr))
    (fun _ i _ => s.size - (intOf i).toNat)
  case atStart => exact ⟨0, Nat.zero_le _, rfl, HR0, HS0⟩
  case round =>
    obtain ⟨k, hk, rfl, HR, HS⟩ := hrel
    have hB1 := HS.out.size
    have hlen := body_le (s.data.toList.take k)
    rw [List.length_take, HZ.out] at hlen
    have HLN : Hid ((34 :: bodyT (s.data.toList.take k)).length ≤ 4 * s.size + 1) := Lib.hid (by rw [List.length_cons]; omega)
    clear hlen
    by_cases hlt : k < s.size
    · have hsn := body_snoc (s.data.toList.take k) s[k]
      rw [← take_snocL s k hlt] at hsn
      have HSN : Hid ((34 :: bodyT (s.data.toList.take (k + 1))) = (34 :: bodyT (s.data.toList.take k)) ++ signT s[k]) := Lib.hid (by rw [hsn]; rfl)
      clear hsn
      obtain ⟨acc, hacc⟩ : ∃ acc, 34 :: bodyT (s.data.toList.take k) = acc := ⟨_, rfl⟩
      rw [hacc] at HR HSN HLN
      clear hacc
      obtain ⟨c, hc⟩ : ∃ c, s[k] = c := ⟨_, rfl⟩
      rw [hc] at HSN
      have hcl := UInt8.toNat_lt c
      by_cases hq : c = 34 ∨ c = 92
      · have HSG : Hid (signT c = [92, c]) := Lib.hid (by unfold signT; rw [if_pos hq])
        have hq2 : ((c.toNat : Int) == 34) = true ∨ (((c.toNat : Int) == 34) = false ∧ ((c.toNat : Int) == 92) = true) := by
          rcases hq with rfl | rfl
          · exact .inl (by decide)
          · exact .inr ⟨by decide, by decide⟩
        have hsp : Spares nowhere wr (wr.alloc (.cells #[.int .u8 92, .int .u8 (c.toNat : Int)] 5)) := (Spares.refl _ _).alloc _
        have HROW := Lib.hid (HR.out.spares hsp (fun _ _ h => h))
        have HAT : Hid (BytesAt (wr.alloc (.cells #[.int .u8 92, .int .u8 (c.toNat : Int)] 5)) (some ⟨wr.heap.size, 0, none⟩) [92, c]) := Lib.hid (at_lit wr [92, c] (by simp [maxLen]))
        have HL2 : Hid (acc.length + 2 ≤ 140737488355328) := Lib.hid (by have := HLN.out; omega)
        have HB2 : Hid (w.heap.size ≤ (wr.alloc (.cells #[.int .u8 92, .int .u8 (c.toNat : Int)] 5)).heap.size) := Lib.hid (by simp; omega)
        have HSP := Lib.hid (HS.out.alloc (.cells #[.int .u8 92, .int .u8 (c.toNat : Int)] 5))
        rw [← hc] at hq2 HAT HROW HB2 HSP
        have HC := Lib.hid hc
        clear hq hsp hc HR HS
        rcases hq2 with q1 | ⟨q1, q2⟩
        all_goals
          go_wp2_with ((with_reducible show wpList _ _ _ (⟨some 30, _, _, _, _, _⟩ :: _) _ _); refine wpList_row_bytes rfl _ _ rfl w.heap.size _ acc rfl HROW.out (some ⟨wr.heap.size, 0, none⟩) 2 2 [92, s[k]] rfl rfl HAT.out (fun e => by cases e) HL2.out HB2.out ?_; intro v9 w9 hr9 hs9; have HR9 := Lib.hid hr9; have HS9 := Lib.hid hs9; clear hr9 hs9)
          go_roundw
          case rel => exact ⟨k + 1, by omega, by go_num, Lib.hid (by rw [HSN.out, HSG.out, ← HC.out]; exact HR9.out), Lib.hid (HSP.out.trans HS9.out)⟩
          case measure => simp [intOf]; omega
      · have q1 : ((c.toNat : Int) == 34) = false := (u8_beq_lit _ 34 (by decide)).trans (by simpa using fun e => hq (.inl e))
        have q2 : ((c.toNat : Int) == 92) = false := (u8_beq_lit _ 92 (by decide)).trans (by simpa using fun e => hq (.inr e))
        cases hn : needs c with
        | true =>
          have HSG : Hid (signT c = [92, 120, LineMath.hexD (c.toNat / 16), LineMath.hexD (c.toNat % 16)]) := Lib.hid (by
            unfold signT; rw [if_neg hq, if_pos hn])
          have hn2 : (c.toNat : Int) < 32 ∨ (¬ (c.toNat : Int) < 32 ∧ (127 : Int) ≤ (c.toNat : Int)) := by
            unfold needs at hn
            simp only [Bool.or_eq_true, decide_eq_true_eq] at hn
            omega
          obtain ⟨a, ha⟩ : ∃ a, c.toNat / 16 = a := ⟨_, rfl⟩
          obtain ⟨b, hb⟩ : ∃ b, c.toNat % 16 = b := ⟨_, rfl⟩
          have ha16 : a < 16 := by omega
          have hb16 : b < 16 := by omega
          have h16a : a < ({ data := #[48, 49, 50, 51, 52, 53, 54, 55, 56, 57, 97, 98, 99, 100, 101, 102] } : ByteArray).size := ha16
          have h16b : b < ({ data := #[48, 49, 50, 51, 52, 53, 54, 55, 56, 57, 97, 98, 99, 100, 101, 102] } : ByteArray).size := hb16
          obtain ⟨x, hx⟩ : ∃ x, ({ data := #[48, 49, 50, 51, 52, 53, 54, 55, 56, 57, 97, 98, 99, 100, 101, 102] } : ByteArray)[a] = x := ⟨_, rfl⟩
          obtain ⟨y, hy⟩ : ∃ y, ({ data := #[48, 49, 50, 51, 52, 53, 54, 55, 56, 57, 97, 98, 99, 100, 101, 102] } : ByteArray)[b] = y := ⟨_, rfl⟩
          have hxd : LineMath.hexD a = x := by rw [← hx]; exact (lowDigits_at a ha16).symm
          have hyd : LineMath.hexD b = y := by rw [← hy]; exact (lowDigits_at b hb16).symm
          rw [ha, hb, hxd, hyd] at HSG
          have ia : (a : Int) < 16 := by omega
          have ib : (b : Int) < 16 := by omega
          have e1 : (c.toNat : Int) / 16 = (a : Int) := by omega
          have e2 : Go.bits .and .u8 (c.toNat : Int) 15 = (b : Int) := by
            have e := and_nat a b ha16 hb16
            rw [show 16 * (a : Int) + (b : Int) = (c.toNat : Int) by omega] at e
            exact e
          have HRow := Lib.hid (show (wr.alloc (.cells #[.int .u8 92, .int .u8 120, .int .u8 (x.toNat : Int), .int .u8 (y.toNat : Int)] 5)).drew.ownsRow w.heap.size 5 1 u3 acc.length (Lib.byteCells acc) from (show (wr.alloc (.cells #[.int .u8 92, .int .u8 120, .int .u8 (x.toNat : Int), .int .u8 (y.toNat : Int)] 5)).ownsRow w.heap.size 5 1 u3 acc.length (Lib.byteCells acc) from (show wr.ownsRow w.heap.size 5 1 u3 acc.length (Lib.byteCells acc) from HR.out).alloc _))
          have HC4 : Hid (∀ j u, [Value.int .u8 92, .int .u8 120, .int .u8 (x.toNat : Int), .int .u8 (y.toNat : Int)][j]? = some u → (wr.alloc (.cells #[.int .u8 92, .int .u8 120, .int .u8 (x.toNat : Int), .int .u8 (y.toNat : Int)] 5)).drew.cell? ((⟨wr.heap.size, 0, none⟩ : Addr).add j) = some u) := Lib.hid (four_new wr 5 _ _ _ _)
          have HSP := Lib.hid (show Spares (atLeast w.heap.size) w (wr.alloc (.cells #[.int .u8 92, .int .u8 120, .int .u8 (x.toNat : Int), .int .u8 (y.toNat : Int)] 5)).drew from (HS.out.alloc _).drew)
          have HL1 := Lib.hid (show acc.length + 4 ≤ maxLen by have := HLN.out; unfold maxLen; omega)
          have HL2 := Lib.hid (show (acc.length + 4) * 1 ≤ 140737488355328 by have := HLN.out; omega)
          have HLT := Lib.hid (show ∀ g, u3.ownBlock = some g → w.heap.size ≤ g from fun g hg => (HR.out.lt g hg).1)
          obtain ⟨i0, hi, hz0, hz1, hz2⟩ := info_parts byteInfo
          clear hq hn ha hb hxd hyd
          rw [← hc] at q1 q2 hn2 e1 e2
          have HC := Lib.hid hc
          clear hc
          rcases hn2 with q3 | ⟨q3, q4⟩
          all_goals
            go_wp2
            go_region_law
              (refine step_append_lies _ (by rfl) _ _ _ (by rfl) w.heap.size 5 i0 _ 1 1 Tryz.underlying30 hi hz0 hz1 hz2 rfl (by decide) u3 acc.length (Lib.byteCells acc) (by rfl)
                     HRow.out ⟨wr.heap.size, 0, none⟩ 4 4 [.int .u8 92, .int .u8 120, .int .u8 (x.toNat : Int), .int .u8 (y.toNat : Int)] (by rfl) (by rfl) HC4.out (by simp [Value.oneCell']) (by decide) HL1.out HL2.out HSP.out.size _ rfl ?_
               intro gg cg w4 hown' hgrow _ _)
            all_goals
              have HR4 : Hid (Row8 w.heap.size w4 (.slice (some ⟨gg, 0, none⟩) (acc.length + 4) cg) (acc ++ [92, 120, x, y])) := Lib.hid (by unfold Row8; rw [List.length_append, byteCells_app]; simpa [Lib.byteCells] using hown')
              have HS4 : Hid (Spares (atLeast w.heap.size) w w4) := Lib.hid (HSP.out.grown hgrow (fun g hg => .inl (HLT.out g hg)))
              clear hown' hgrow
              go_wp2
              go_roundw
              case rel => exact ⟨k + 1, by omega, by go_num, Lib.hid (by rw [HSN.out, HSG.out]; exact HR4.out), HS4⟩
              case measure => simp [intOf]; omega
        | false =>
          have HSG : Hid (signT c = [c]) := Lib.hid (by unfold signT; rw [if_neg hq, if_neg (by rw [hn]; simp)])
          have q3 : ¬ (c.toNat : Int) < 32 := by unfold needs at hn; simp at hn; omega
          have q4 : ¬ (127 : Int) ≤ (c.toNat : Int) := by unfold needs at hn; simp at hn; omega
          have HL1 : Hid (acc.length + 1 ≤ 140737488355328) := Lib.hid (by have := HLN.out; omega)
          clear hq hn
          rw [← hc] at q1 q2 q3 q4
          have HC := Lib.hid hc
          clear hc
          go_wp2_with ((with_reducible show wpList _ _ _ (⟨some 19, _, _, _, _, _⟩ :: _) _ _); refine wpList_row_one rfl _ _ rfl w.heap.size _ acc rfl HR.out s[k] _ rfl rfl HL1.out hB1 ?_; intro v9 w9 hr9 hs9; have HR9 := Lib.hid hr9; have HS9 := Lib.hid hs9; clear hr9 hs9)
          go_roundw
          case rel => exact ⟨k + 1, by omega, by go_num, Lib.hid (by rw [HSN.out, HSG.out, ← HC.out]; exact HR9.out), Lib.hid (HS.out.trans HS9.out)⟩
          case measure => simp [intOf]; omega
    · obtain rfl : k = s.size := by omega
      have HE : Hid (s.data.toList.take s.size = s.data.toList) := Lib.hid (List.take_of_length_le (by rw [HZ.out]; exact Nat.le_refl _))
      have HL1 : Hid ((34 :: bodyT (s.data.toList.take s.size)).length + 1 ≤ 140737488355328) := Lib.hid (by have := HLN.out; omega)
      obtain ⟨Q, hQ⟩ : ∃ Q, quoteT s.data.toList = Q := ⟨_, rfl⟩
      have HQ := Lib.hid hQ
      clear hQ
      go_wp2_with ((with_reducible show wpList _ _ _ (⟨some 49, _, _, _, _, _⟩ :: _) _ _); refine wpList_row_one rfl _ _ rfl w.heap.size _ _ rfl HR.out 34 _ rfl rfl HL1.out hB1 ?_; intro v9 w9 hr9 hs9; have HR9 : Hid (Row8 w.heap.size w9 v9 Q) := Lib.hid (by rw [HE.out] at hr9; rw [← HQ.out]; exact hr9); have HBL := Lib.hid (row_below (HS.out.trans hs9)); clear hr9 hs9; obtain ⟨a, c, hv9, hat, hnil, hcap⟩ := HR9.out.shape; subst hv9; have hcv := conv_bytes hat c; clear hat hnil hcap)
      go_ret
      exact ⟨by rw [HQ.out]; rfl, HBL.out⟩
end Go.Proofs.YtkbcklaloblmeaaGreatDoor
namespace Go.Proofs.YtkbcklaloblmeaaGreatDoor
open Go.RowKit HeadMath NormMath NormS LineMath ChunkS

def refQV (l : Bs) (k : Nat) : Value := match quotedF (l.drop k) with
  | some (v, t) => .tuple #[.string (arrS v), .int .i64 ((l.length - t.length : Nat) : Int)]
  | none => .tuple #[.string ⟨#[]⟩, .int .i64 (-1)]
def RefQPost (l : Bs) (k : Nat) (w : World) (e : Ending) (w' : World) : Prop := e = .returned (refQV l k) ∧ Below w.heap.size w w'
theorem drop_cons (s : ByteArray) (k : Nat) (h : k < s.size) : s.data.toList.drop k = s[k] :: s.data.toList.drop (k + 1) := by
  rw [List.drop_eq_getElem_cons (by rw [size_list]; exact h)]
  rfl
theorem sf_two (d : UInt8) (r : Bs) (h : d = 34 ∨ d = 92) : signF (92 :: d :: r) = some (d, 2) := by
  unfold signF; simp only [if_true, if_pos h]
theorem sf_none (r : Bs) (h : ∀ d t, r = d :: t → ¬ (d = 34 ∨ d = 92) ∧ (d = 120 → t.length < 2)) : signF (92 :: r) = none := by
  cases r with
  | nil => rfl
  | cons d t =>
    obtain ⟨h1, h2⟩ := h d t rfl
    unfold signF
    simp only [if_true, if_neg h1]
    by_cases h3 : d = 120
    · rw [if_pos h3]
      match t, h2 h3 with
      | [], _ => rfl
      | [_], _ => rfl
      | _ :: _ :: _, h => simp at h; omega
    · rw [if_neg h3]
theorem sf_plain (c : UInt8) (r : Bs) (h : c ≠ 92) : signF (c :: r) = if needs c = true then none else some (c, 1) := by
  unfold signF
  simp only [if_neg h]
theorem refQV_none {l : Bs} {k : Nat} (h : quotedF (l.drop k) = none) : refQV l k = .tuple #[.string ⟨#[]⟩, .int .i64 (-1)] := by unfold refQV; rw [h]
theorem refQV_some {l : Bs} {k j : Nat} {v : Bs} (h : quotedF (l.drop k) = some (v, l.drop j)) (hj : j ≤ l.length) : refQV l k = .tuple #[.string (arrS v), .int .i64 (j : Int)] := by
  unfold refQV; rw [h]
  simp only [List.length_drop]
  rw [show l.length - (l.length - j) = j by omega]
theorem refHexD (x : UInt8) (b : Bool) (h : hexB x = b) (w : World) : Calls Tryz.prog 65 #[.int .u8 x.toNat] w fun e w' => e = .returned (.int .i64 (if b then (hexN x : Int) else -1)) ∧ w' = w := by
  refine (refHex_quiet x w).mono ?_
  rintro e w' ⟨rfl, hw⟩
  refine ⟨?_, hw⟩
  cases b with
  | true => rw [hexI_some h]; rfl
  | false => rw [hexI_none h]; rfl
set_option maxRecDepth 100000 in
set_option maxHeartbeats 1500000 in
theorem refQuoted_any (s : ByteArray) (at0 : Nat) (w : World) (hs : s.size ≤ 1000000000) (hat : at0 ≤ 1000000000) : Calls Tryz.prog 33 #[.string s, .int .i64 at0] w (RefQPost s.data.toList at0 w) := by
  have HZ := Lib.hid (size_list s)
  unfold RefQPost
  by_cases h0 : at0 < s.size
  · have hd := drop_cons s at0 h0
    by_cases h34 : s[at0] = 34
    · have q1 : ((s[at0].toNat : Int) != 34) = false := by rw [h34]; rfl
      rw [h34] at hd
      have HST : Hid (QAt (s.data.toList.drop at0) [] (s.data.toList.drop (at0 + 1))) := Lib.hid ⟨(s.data.toList.drop (at0 + 1)).length + 1, Nat.lt_succ_self _, by rw [hd]; rfl⟩
      have hd0 : decide (s.size ≤ at0) = false := by simp; omega
      clear hd h34
      go_enter Tryz.func33, Tryz.ntmps33
      go_wp2
      go_loopw [6, 7] (fun v i wr => ∃ (k : Nat) (acc : Bs), k ≤ s.size ∧ i = .int .i64 k ∧ acc.length ≤ k ∧ Hid (QAt (s.data.toList.drop at0) acc (s.data.toList.drop k)) ∧ Hid (Row8 w.heap.size wr v acc) ∧ Hid (Spares (atLeast w.heap.size) w wr))
        (fun _ i _ => s.size - (intOf i).toNat)
      case atStart => exact ⟨at0 + 1, [], by omega, by go_num, by simp, HST, Lib.hid (row8_nil _ _), Lib.hid (Spares.refl _ _)⟩
      case round =>
        obtain ⟨k, acc, hk, rfl, hlen, HQ, HR, HS⟩ := hrel
        have hB1 := HS.out.size
        have HBL := Lib.hid (row_below HS.out)
        have HL1 : Hid (acc.length + 1 ≤ 140737488355328) := Lib.hid (by omega)
        by_cases hlt : k < s.size
        · have HD := Lib.hid (drop_cons s k hlt)
          by_cases hc34 : s[k] = 34
          · have q2 : ((s[k].toNat : Int) == 34) = true := (u8_beq_lit _ 34 (by decide)).trans (by simpa using hc34)
            have HV := Lib.hid (refQV_some (j := k + 1) (by have := HQ.out; rw [HD.out, hc34] at this; exact this.done) (by rw [HZ.out]; omega))
            obtain ⟨a, cp, rfl, hat8, hnil, hcap⟩ := HR.out.shape
            have hcv := conv_bytes hat8 cp
            clear hat8 hnil hcap hc34
            go_wp2
            go_ret2
            exact ⟨by rw [HV.out]; rfl, HBL.out⟩
          · have q2 : ((s[k].toNat : Int) == 34) = false := (u8_beq_lit _ 34 (by decide)).trans (by simpa using hc34)
            by_cases hc92 : s[k] = 92
            · have q3 : ((s[k].toNat : Int) == 92) = true := (u8_beq_lit _ 92 (by decide)).trans (by simpa using hc92)
              by_cases hk1 : k + 1 < s.size
              · have HD1 := Lib.hid (drop_cons s (k + 1) hk1)
                by_cases hd2 : s[k + 1] = 34 ∨ s[k + 1] = 92
                · have HN : Hid (QAt (s.data.toList.drop at0) (acc ++ [s[k + 1]]) (s.data.toList.drop (k + 2))) := Lib.hid (by
                    have h1 := HQ.out
                    rw [HD.out, hc92, HD1.out] at h1
                    have := h1.step (by decide) (sf_two _ _ hd2)
                    exact this)
                  have hd3 : ((s[k + 1].toNat : Int) == 34) = true ∨ (((s[k + 1].toNat : Int) == 34) = false ∧ ((s[k + 1].toNat : Int) == 92) = true) := by
                    rcases hd2 with h | h
                    · exact .inl (by rw [h]; decide)
                    · exact .inr ⟨by rw [h]; decide, by rw [h]; decide⟩
                  clear hd2 hc34 hc92
                  rcases hd3 with q4 | ⟨q4, q5⟩
                  all_goals
                    go_wp2_with ((with_reducible show wpList _ _ _ (⟨some 72, _, _, _, _, _⟩ :: _) _ _); refine wpList_row_one rfl _ _ rfl w.heap.size _ acc rfl HR.out s[k + 1] _ rfl rfl HL1.out hB1 ?_; intro v9 w9 hr9 hs9; have HR9 := Lib.hid hr9; have HS9 := Lib.hid hs9; clear hr9 hs9)
                    go_roundw
                    case rel => exact ⟨k + 2, acc ++ [s[k + 1]], by omega, by go_num, by simp; omega, HN, HR9, Lib.hid (HS.out.trans HS9.out)⟩
                    case measure => simp [intOf]; omega
                · have q4 : ((s[k + 1].toNat : Int) == 34) = false := (u8_beq_lit _ 34 (by decide)).trans (by simpa using fun h => hd2 (.inl h))
                  have q5 : ((s[k + 1].toNat : Int) == 92) = false := (u8_beq_lit _ 92 (by decide)).trans (by simpa using fun h => hd2 (.inr h))
                  by_cases hk3 : k + 3 < s.size
                  · by_cases h120 : s[k + 1] = 120
                    · have q6 : ((s[k + 1].toNat : Int) != 120) = false := by rw [h120]; rfl
                      have HD2 := Lib.hid (drop_cons s (k + 2) (by omega))
                      have HD3 := Lib.hid (drop_cons s (k + 3) hk3)
                      have HX4 : Hid (s.data.toList.drop k = 92 :: 120 :: s[k + 2] :: s[k + 3] :: s.data.toList.drop (k + 4)) := Lib.hid (by rw [HD.out, hc92, HD1.out, h120, HD2.out, HD3.out])
                      have HSF : Hid (signF (s.data.toList.drop k) = (if ((hexB s[k + 2] && hexB s[k + 3]) && needs (pairV s[k + 2] s[k + 3])) = true then some (pairV s[k + 2] s[k + 3], 4) else none)) := Lib.hid (by rw [HX4.out]; exact hex_pair _ _ _)
                      obtain ⟨x, hx⟩ : ∃ x, s[k + 2] = x := ⟨_, rfl⟩
                      obtain ⟨y, hy⟩ : ∃ y, s[k + 3] = y := ⟨_, rfl⟩
                      rw [hx, hy] at HX4 HSF
                      clear HD HD1 HD2 HD3 hd2 hc34 hc92 h120
                      have HBAD : Hid (signF (s.data.toList.drop k) = none → refQV s.data.toList at0 = .tuple #[.string ⟨#[]⟩, .int .i64 (-1)]) := Lib.hid (fun h => refQV_none (by
                        have h1 := HQ.out
                        rw [HX4.out] at h1 h
                        exact h1.bad (by decide) h))
                      cases hbx : hexB x with
                      | false =>
                        have cx := refHexD x false hbx
                        have HV := Lib.hid (HBAD.out (by rw [HSF.out, hbx]; rfl))
                        clear hbx
                        go_wp2_with fail
                        refine (cx _).mono ?_
                        rintro e w1 ⟨rfl, rfl⟩
                        go_wp2
                        go_ret2
                        exact ⟨by rw [HV.out]; rfl, HBL.out⟩
                      | true =>
                        cases hby : hexB y with
                        | false =>
                          have cx := refHexD x true hbx
                          have cy := refHexD y false hby
                          have HV := Lib.hid (HBAD.out (by rw [HSF.out, hbx, hby]; rfl))
                          clear hbx hby
                          generalize hexN x = a at *
                          go_wp2_with fail
                          refine (cx _).mono ?_
                          rintro e w1 ⟨rfl, rfl⟩
                          go_wp2_with fail
                          refine (cy _).mono ?_
                          rintro e w1 ⟨rfl, rfl⟩
                          go_wp2
                          go_ret2
                          exact ⟨by rw [HV.out]; rfl, HBL.out⟩
                        | true =>
                          have cx : ∀ w, Calls Tryz.prog 65 #[.int .u8 x.toNat] w fun e w' => e = .returned (.int .i64 (hexN x : Int)) ∧ w' = w := refHexD x true hbx
                          have cy : ∀ w, Calls Tryz.prog 65 #[.int .u8 y.toNat] w fun e w' => e = .returned (.int .i64 (hexN y : Int)) ∧ w' = w := refHexD y true hby
                          have ha := hexN_lt x
                          have hb := hexN_lt y
                          have hvn := pairV_nat x y
                          have hxa := hexI_some hbx
                          have hyb := hexI_some hby
                          obtain ⟨v, hv⟩ : ∃ v, pairV x y = v := ⟨_, rfl⟩
                          have HSF2 : Hid (signF (s.data.toList.drop k) = (if needs v = true then some (v, 4) else none)) := Lib.hid (by rw [HSF.out, hbx, hby, hv]; rfl)
                          rw [hv] at hvn
                          clear hbx hby hv HSF
                          generalize hexN x = a at *
                          generalize hexN y = b at *
                          have HVN := Lib.hid hvn
                          clear hvn
                          go_wp2_with fail
                          refine (cx _).mono ?_
                          rintro e w1 ⟨rfl, rfl⟩
                          go_wp2_with fail
                          refine (cy _).mono ?_
                          rintro e w1 ⟨rfl, rfl⟩
                          go_wp2
                          go_quiet ((go_at_call 65; exact Calls.quiet_of_same (refHex_quiet _ _)))
                          obtain ⟨wo, hwo⟩ : ∃ wo, w1.drewN nq = wo := ⟨_, rfl⟩
                          have HRo : Hid (Row8 w.heap.size wo u6 acc) := Lib.hid (by rw [← hwo]; exact HR.out.spares (F := nowhere) ((Spares.refl _ _).drewN nq) (fun _ _ h => h))
                          have HSo : Hid (Spares (atLeast w.heap.size) w wo) := Lib.hid (by rw [← hwo]; exact HS.out.drewN nq)
                          have hBo := HSo.out.size
                          have HBLo := Lib.hid (row_below HSo.out)
                          rw [hwo]
                          have hvi : 16 * (a : Int) + (b : Int) = (v.toNat : Int) := by have := HVN.out; omega
                          rw [hvi]
                          clear hwo HR HS hB1 hx hy hxa hyb hvi HVN cx cy ha hb
                          cases hn : needs v with
                          | true =>
                            have hn2 : (v.toNat : Int) < 32 ∨ (¬ (v.toNat : Int) < 32 ∧ (127 : Int) ≤ (v.toNat : Int)) := by
                              unfold needs at hn
                              simp only [Bool.or_eq_true, decide_eq_true_eq] at hn
                              omega
                            have HN : Hid (QAt (s.data.toList.drop at0) (acc ++ [v]) (s.data.toList.drop (k + 4))) := Lib.hid (by
                              have h1 := HQ.out
                              have h2 := HSF2.out
                              rw [if_pos hn] at h2
                              have h3 : (s.data.toList.drop k).drop 4 = s.data.toList.drop (k + 4) := by rw [List.drop_drop]
                              rw [← h3]
                              rw [HX4.out] at h1 h2 ⊢
                              exact h1.step (by decide) h2)
                            clear hn
                            rcases hn2 with q7 | ⟨q7, q8⟩
                            all_goals
                              go_wp2_with ((with_reducible show wpList _ _ _ (⟨some 128, _, _, _, _, _⟩ :: _) _ _); refine wpList_row_one rfl _ _ rfl w.heap.size _ acc rfl HRo.out v _ rfl rfl HL1.out hBo ?_; intro v9 w9 hr9 hs9; have HR9 := Lib.hid hr9; have HS9 := Lib.hid hs9; clear hr9 hs9)
                              go_roundw
                              case rel => exact ⟨k + 4, acc ++ [v], by omega, by go_num, by simp; omega, HN, HR9, Lib.hid (HSo.out.trans HS9.out)⟩
                              case measure => simp [intOf]; omega
                          | false =>
                            have q7 : (32 : Int) ≤ (v.toNat : Int) := by unfold needs at hn; simp at hn; omega
                            have q8 : (v.toNat : Int) < 127 := by unfold needs at hn; simp at hn; omega
                            have HV := Lib.hid (HBAD.out (by rw [HSF2.out, if_neg (by rw [hn]; simp)]))
                            clear hn
                            go_wp2
                            go_ret2
                            exact ⟨by rw [HV.out]; rfl, HBLo.out⟩
                    · have q6 : ((s[k + 1].toNat : Int) != 120) = true := by
                        simp only [bne, Bool.not_eq_true']
                        exact (u8_beq_lit _ 120 (by decide)).trans (by simpa using h120)
                      have HV := Lib.hid (refQV_none (l := s.data.toList) (k := at0) (by
                        have h1 := HQ.out
                        rw [HD.out, hc92] at h1
                        refine h1.bad (by decide) (sf_none _ fun d t e => ?_)
                        rw [HD1.out] at e
                        injection e with e1 e2
                        subst e1
                        exact ⟨hd2, fun h => absurd h h120⟩))
                      clear hd2 hc34 hc92 h120
                      go_wp2
                      go_ret2
                      exact ⟨by rw [HV.out]; rfl, HBL.out⟩
                  · have HV := Lib.hid (refQV_none (l := s.data.toList) (k := at0) (by
                      have h1 := HQ.out
                      rw [HD.out, hc92] at h1
                      refine h1.bad (by decide) (sf_none _ fun d t e => ?_)
                      rw [HD1.out] at e
                      injection e with e1 e2
                      subst e1
                      exact ⟨hd2, fun _ => by rw [← e2, List.length_drop, HZ.out]; omega⟩))
                    clear hd2 hc34 hc92
                    go_wp2
                    go_ret2
                    exact ⟨by rw [HV.out]; rfl, HBL.out⟩
              · have HV := Lib.hid (refQV_none (l := s.data.toList) (k := at0) (by
                  have h1 := HQ.out
                  rw [HD.out, hc92] at h1
                  refine h1.bad (by decide) (sf_none _ fun d t e => ?_)
                  have := congrArg List.length e
                  rw [List.length_drop, HZ.out] at this
                  simp at this
                  omega))
                clear hc34 hc92
                go_wp2
                go_ret2
                exact ⟨by rw [HV.out]; rfl, HBL.out⟩
            · have q3 : ((s[k].toNat : Int) == 92) = false := (u8_beq_lit _ 92 (by decide)).trans (by simpa using hc92)
              cases hn : needs s[k] with
              | true =>
                have hn2 : (s[k].toNat : Int) < 32 ∨ (¬ (s[k].toNat : Int) < 32 ∧ (127 : Int) ≤ (s[k].toNat : Int)) := by
                  unfold needs at hn
                  simp only [Bool.or_eq_true, decide_eq_true_eq] at hn
                  omega
                have HV := Lib.hid (refQV_none (l := s.data.toList) (k := at0) (by
                  have h1 := HQ.out
                  rw [HD.out] at h1
                  exact h1.bad hc34 (by rw [sf_plain _ _ hc92, if_pos hn])))
                clear hc34 hc92 hn
                rcases hn2 with q4 | ⟨q4, q5⟩
                all_goals
                  go_wp2
                  go_ret2
                  exact ⟨by rw [HV.out]; rfl, HBL.out⟩
              | false =>
                have q4 : ¬ (s[k].toNat : Int) < 32 := by unfold needs at hn; simp at hn; omega
                have q5 : ¬ (127 : Int) ≤ (s[k].toNat : Int) := by unfold needs at hn; simp at hn; omega
                have HN : Hid (QAt (s.data.toList.drop at0) (acc ++ [s[k]]) (s.data.toList.drop (k + 1))) := Lib.hid (by
                  have h1 := HQ.out
                  rw [HD.out] at h1
                  exact h1.step hc34 (by rw [sf_plain _ _ hc92, if_neg (by rw [hn]; simp)]))
                clear hc34 hc92 hn
                go_wp2_with ((with_reducible show wpList _ _ _ (⟨some 34, _, _, _, _, _⟩ :: _) _ _); refine wpList_row_one rfl _ _ rfl w.heap.size _ acc rfl HR.out s[k] _ rfl rfl HL1.out hB1 ?_; intro v9 w9 hr9 hs9; have HR9 := Lib.hid hr9; have HS9 := Lib.hid hs9; clear hr9 hs9)
                go_roundw
                case rel => exact ⟨k + 1, acc ++ [s[k]], by omega, by go_num, by simp; omega, HN, HR9, Lib.hid (HS.out.trans HS9.out)⟩
                case measure => simp [intOf]; omega
        · have HV := Lib.hid (refQV_none (l := s.data.toList) (k := at0) (by
            have h1 := HQ.out
            have he : s.data.toList.drop k = [] := List.drop_eq_nil_of_le (by rw [HZ.out]; omega)
            rw [he] at h1
            exact h1.none))
          go_wp2
          go_ret2
          exact ⟨by rw [HV.out]; rfl, HBL.out⟩
    · have q1 : ((s[at0].toNat : Int) != 34) = true := by
        simp only [bne, Bool.not_eq_true']
        exact (u8_beq_lit _ 34 (by decide)).trans (by simpa using h34)
      have HV := Lib.hid (refQV_none (l := s.data.toList) (k := at0) (by rw [hd]; unfold quotedF; simp only [if_neg h34]))
      clear hd h34
      go_enter Tryz.func33, Tryz.ntmps33
      go_wp2
      go_ret2
      exact ⟨by rw [HV.out]; rfl, Below.refl _ _⟩
  · have HV := Lib.hid (refQV_none (l := s.data.toList) (k := at0) (by rw [List.drop_eq_nil_of_le (by rw [HZ.out]; omega)]; rfl))
    go_enter Tryz.func33, Tryz.ntmps33
    go_wp2
    go_ret2
    exact ⟨by rw [HV.out]; rfl, Below.refl _ _⟩
end Go.Proofs.YtkbcklaloblmeaaGreatDoor
namespace Go.Proofs.YtkbcklaloblmeaaGreatDoor
open Go.RowKit HeadMath NormMath NormS LineMath ChunkS

theorem quotedF_len {l v t : Bs} (h : quotedF l = some (v, t)) : t.length < l.length := by
  have key : ∀ (f : Nat) (acc r : Bs), quotedG f acc r = some (v, t) → t.length ≤ r.length := by
    intro f
    induction f with
    | zero => intro acc r h; cases h
    | succ f ih =>
      intro acc r h
      cases r with
      | nil => cases h
      | cons c r =>
        rw [quotedG] at h
        by_cases hc : c = 34
        · rw [if_pos hc] at h
          injection h with h
          injection h with _ h
          rw [← h]; simp
        · rw [if_neg hc] at h
          cases hs : signF (c :: r) with
          | none => rw [hs] at h; cases h
          | some p =>
            obtain ⟨x, n⟩ := p
            rw [hs] at h
            have := ih _ _ h
            simp only [List.length_drop] at this
            omega
  cases l with
  | nil => cases h
  | cons c r =>
    rw [show quotedF (c :: r) = if c = 34 then quotedG (r.length + 1) [] r else none from rfl] at h
    by_cases hc : c = 34
    · rw [if_pos hc] at h
      have := key _ _ _ h
      simp; omega
    · rw [if_neg hc] at h; cases h
set_option maxHeartbeats 4000000 in
theorem refUnquote_any (s : ByteArray) (w : World) (hs : s.size ≤ 1000000000) : Calls Tryz.prog 15 #[.string s] w (UnqPost s.data.toList w) := by
  have cQ := refQuoted_any s 0 w hs (by omega)
  have hl := size_list s
  unfold RefQPost refQV at cQ
  rw [List.drop_zero] at cQ
  unfold UnqPost
  cases hq : quotedF s.data.toList with
  | none =>
    have HV : Hid (unqV s.data.toList = .tuple #[.string ⟨#[]⟩, .bool false]) := Lib.hid (by unfold unqV unquoteF; rw [hq])
    rw [hq] at cQ
    have q1 : ((-1 : Int) != (s.size : Int)) = true := by simp
    clear hq hl
    go_enter Tryz.func15, Tryz.ntmps15
    go_wp2_with fail
    refine cQ.mono ?_
    rintro e w1 ⟨rfl, hb⟩
    go_wp2
    go_ret2
    exact ⟨by rw [HV.out]; rfl, hb⟩
  | some p =>
    obtain ⟨v, t⟩ := p
    have hlt := quotedF_len hq
    rw [hq] at cQ
    simp only at cQ
    by_cases ht : t = []
    · subst ht
      have HV : Hid (unqV s.data.toList = .tuple #[.string (arrS v), .bool true]) := Lib.hid (by unfold unqV unquoteF; rw [hq])
      rw [hl, List.length_nil, Nat.sub_zero] at cQ
      obtain ⟨V, hV⟩ : ∃ V, arrS v = V := ⟨_, rfl⟩
      rw [hV] at cQ HV
      clear hq hl hV hlt
      go_enter Tryz.func15, Tryz.ntmps15
      go_wp2_with fail
      refine cQ.mono ?_
      rintro e w1 ⟨rfl, hb⟩
      go_wp2
      go_ret2
      exact ⟨by rw [HV.out]; rfl, hb⟩
    · have HV : Hid (unqV s.data.toList = .tuple #[.string ⟨#[]⟩, .bool false]) := Lib.hid (by
        unfold unqV unquoteF; rw [hq]
        cases t with
        | nil => exact absurd rfl ht
        | cons c t => rfl)
      have hpos : 0 < t.length := List.length_pos_iff.2 ht
      obtain ⟨m, hm⟩ : ∃ m, s.data.toList.length - t.length = m := ⟨_, rfl⟩
      rw [hm] at cQ
      have hms : m < s.size := by omega
      have q1 : ((m : Int) != (s.size : Int)) = true := by simp; omega
      obtain ⟨V, hV⟩ : ∃ V, arrS v = V := ⟨_, rfl⟩
      rw [hV] at cQ
      clear hq hl hV hlt hm hpos ht
      go_enter Tryz.func15, Tryz.ntmps15
      go_wp2_with fail
      refine cQ.mono ?_
      rintro e w1 ⟨rfl, hb⟩
      go_wp2
      go_ret2
      exact ⟨by rw [HV.out]; rfl, hb⟩
end Go.Proofs.YtkbcklaloblmeaaGreatDoor
