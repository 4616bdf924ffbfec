/-
  line.Quote.
  line.sign: one byte as it stands in quotes.
  line.quoted and line.Unquote.
-/
import Derived.Deep.QuietTactic
import Derived.BigQuiet
import Derived.Deep.RegionWith
import Derived.Test.YtkbcklaloblmeaaGreatDoorMg8
import Derived.Test.YtkbcklaloblmeaaGreatDoorMg9
import Derived.Test.YtkbcklaloblmeaaGreatDoorMg10
namespace Go.Proofs.YtkbcklaloblmeaaGreatDoor
open Go.RowKit HeadMath NormMath NormS LineMath ChunkS

theorem needs_any (c : UInt8) (w : World) : Calls Tryz.prog 36 #[.int .u8 c.toNat] w fun e w' => e = .returned (.bool (needs c)) ∧ w = w' := by
  by_cases h1 : c.toNat < 32
  · have HV := Lib.hid (show needs c = true by unfold needs; simp [h1])
    have q1 : (c.toNat : Int) < 32 := by omega
    clear h1
    go_enter Tryz.func36, Tryz.ntmps36
    go_wp2
    go_ret
    exact ⟨by rw [HV.out]; rfl, rfl⟩
  · have q1 : ¬ (c.toNat : Int) < 32 := by omega
    by_cases h2 : 127 ≤ c.toNat
    · have HV := Lib.hid (show needs c = true by unfold needs; simp [h2])
      have q2 : (127 : Int) ≤ (c.toNat : Int) := by omega
      clear h1 h2
      go_enter Tryz.func36, Tryz.ntmps36
      go_wp2
      go_ret
      exact ⟨by rw [HV.out]; rfl, rfl⟩
    · have HV := Lib.hid (show needs c = false by unfold needs; simp [h1, h2])
      have q2 : ¬ (127 : Int) ≤ (c.toNat : Int) := by omega
      clear h1 h2
      go_enter Tryz.func36, Tryz.ntmps36
      go_wp2
      go_ret
      exact ⟨by rw [HV.out]; rfl, rfl⟩

theorem body_snoc (s : Bs) (c : UInt8) : bodyT (s ++ [c]) = bodyT s ++ signT c := by unfold bodyT; rw [List.flatMap_append]; simp
theorem body_le (s : Bs) : (bodyT s).length ≤ 4 * s.length := by
  induction s with
  | nil => exact Nat.le_refl _
  | cons c s ih =>
    have : (signT c).length ≤ 4 := by
      unfold signT
      split
      · simp
      · split <;> simp
    simp only [bodyT, List.flatMap_cons, List.length_append, List.length_cons] at ih ⊢
    omega
theorem take_snocL (s : ByteArray) (k : Nat) (h : k < s.size) : s.data.toList.take (k + 1) = s.data.toList.take k ++ [s[k]] := by
  rw [List.take_succ_eq_append_getElem (by simpa using h)]; rfl
theorem drop1_three (a b c : UInt8) : ((⟨#[a, b, c]⟩ : ByteArray).extract 1 3).data.toList = [b, c] := by
  rw [Lib.extract_data]; rfl
theorem str_three (x y : UInt8) : Lib.strCells ((⟨#[49, x, y]⟩ : ByteArray).extract 1 3) = Lib.byteCells [x, y] := by
  unfold Lib.strCells
  rw [drop1_three]
  rfl
set_option maxRecDepth 100000 in
set_option maxHeartbeats 4000000 in
theorem quote_any (s : ByteArray) (w : World) (hs : s.size ≤ 1000000000) (hT : TabZ w) :
    Calls Tryz.prog 13 #[.string s] w fun e w' => e = .returned (.string ⟨(quoteT s.data.toList).toArray⟩) ∧ Below w.heap.size w w' := by
  have HZ := Lib.hid (size_list s)
  have HT := Lib.hid hT
  clear hT
  go_enter Tryz.func13, Tryz.ntmps13
  go_wp2_with fail
  refine (writeByte_any w.heap.size w.heap.size _ _ _ built_empty (by simp) (by simp)).mono ?_
  rintro e w0 ⟨rfl, hB0, hb0⟩
  have HB0 := Lib.hid hB0
  have hb0' : Below w.heap.size w w0 := ((Below.refl _ _).alloc (Nat.le_refl _) _).trans hb0
  have HBE0 := Lib.hid hb0'
  clear hB0 hb0 hb0'
  go_wp2
  go_loopw [9] (fun i wr => ∃ (k : Nat), k ≤ s.size ∧ i = .int .i64 k ∧ Hid (Lib.BuilderAt 65 5 w.heap.size w.heap.size (.pointer (some ⟨w.heap.size, 0, none⟩)) (Lib.byteCells (34 :: bodyT (s.data.toList.take k))) wr) ∧ Below w.heap.size w wr)
    (fun i _ => s.size - (intOf i).toNat)
  case atStart => exact ⟨0, Nat.zero_le _, rfl, Lib.hid (by simpa [Lib.byteCells, bodyT] using HB0.out), HBE0.out⟩
  case round =>
    obtain ⟨k, hk, rfl, HB, hbr⟩ := hrel
    have hlen := body_le (s.data.toList.take k)
    rw [List.length_take, HZ.out] at hlen
    have HLN : Hid ((34 :: bodyT (s.data.toList.take k)).length ≤ 4 * s.size + 1) := Lib.hid (by rw [List.length_cons]; omega)
    clear hlen
    by_cases hlt : k < s.size
    · have hsn := body_snoc (s.data.toList.take k) s[k]
      rw [← take_snocL s k hlt] at hsn
      have HSN : Hid ((34 :: bodyT (s.data.toList.take (k + 1))) = (34 :: bodyT (s.data.toList.take k)) ++ signT s[k]) := Lib.hid (by rw [hsn]; rfl)
      clear hsn
      obtain ⟨c, hc⟩ : ∃ c, s[k] = c := ⟨_, rfl⟩
      rw [hc] at HSN
      have HC := Lib.hid hc
      clear hc
      have hcl := UInt8.toNat_lt c
      have cN := needs_any c
      cases hn : needs c with
      | true =>
        have HS : Hid (signT c = [92, 120, LineMath.hexD (c.toNat / 16), LineMath.hexD (c.toNat % 16)]) := Lib.hid (by
          unfold signT
          rw [if_neg (by rintro (rfl | rfl) <;> exact absurd hn (by decide)), if_pos hn])
        have ho := or256 c.toNat hcl
        have hF := fun w1 h1 => fmt_any (256 + c.toNat) w1 (by omega) h1
        rw [hexT_256 c.toNat hcl] at hF
        rw [hn] at cN
        obtain ⟨x, hx⟩ : ∃ x, LineMath.hexD (c.toNat / 16) = x := ⟨_, rfl⟩
        obtain ⟨y, hy⟩ : ∃ y, LineMath.hexD (c.toNat % 16) = y := ⟨_, rfl⟩
        rw [hx, hy] at hF HS
        have hsz : (({ data := #[49, x, y] } : ByteArray)).size = 3 := rfl
        clear hn hx hy
        go_wp2_with fail
        rw [HC.out]
        refine (cN _).mono ?_
        rintro e w1 ⟨rfl, rfl⟩
        go_wp2_with fail
        refine (writeString_any w.heap.size w.heap.size _ _ wr (.inr HB.out) (by rw [Lib.byteCells_length]; have := HLN.out; have hz : ({ data := #[92, 120] } : ByteArray).size = 2 := rfl; rw [hz]; omega) hbr.size).mono ?_
        rintro e w2 ⟨rfl, hB2, hb2, _⟩
        have HB2 := Lib.hid hB2
        have hbr2 := hbr.trans hb2
        clear hB2 hb2
        go_wp2_with fail
        refine (hF w2 (HT.out.below hbr2)).mono ?_
        rintro e w3 ⟨rfl, hb3⟩
        have HB3 := Lib.hid (builder_below HB2.out hb3)
        have hbr3 := hbr2.trans (hb3.mono hbr2.size)
        clear hb3 hF
        go_wp2_with fail
        refine (writeString_any w.heap.size w.heap.size _ _ w3 (.inr HB3.out) (by rw [List.length_append, Lib.byteCells_length, Lib.strCells_length]; have := HLN.out; have hz : ({ data := #[92, 120] } : ByteArray).size = 2 := rfl; rw [hz]; simp only [ByteArray.size_extract]; omega) hbr3.size).mono ?_
        rintro e w4 ⟨rfl, hB4, hb4, _⟩
        have HB4 := Lib.hid hB4
        have hbr4 := hbr3.trans hb4
        clear hB4 hb4
        go_wp2
        go_roundw
        case rel =>
          refine ⟨k + 1, by omega, by go_num, Lib.hid ?_, hbr4⟩
          rw [HSN.out, HS.out, Lib.byteCells_append]
          have h4 := HB4.out
          rw [str_three x y, List.append_assoc] at h4
          exact h4
        case measure => simp [intOf]; omega
      | false =>
        rw [hn] at cN
        by_cases hq : c = 34 ∨ c = 92
        · have HS : Hid (signT c = [92, c]) := Lib.hid (by unfold signT; rw [if_pos hq])
          have hq2 : ((c.toNat : Int) == 34) = true ∨ (((c.toNat : Int) == 34) = false ∧ ((c.toNat : Int) == 92) = true) := by
            rcases hq with rfl | rfl
            · exact .inl (by decide)
            · exact .inr ⟨by decide, by decide⟩
          clear hq hn
          rcases hq2 with q1 | ⟨q1, q2⟩
          all_goals
            go_wp2_with fail
            rw [HC.out]
            refine (cN _).mono ?_
            rintro e w1 ⟨rfl, rfl⟩
            go_wp2_with fail
            refine (writeByte_any w.heap.size w.heap.size _ _ wr (.inr HB.out) (by rw [Lib.byteCells_length]; have := HLN.out; omega) hbr.size).mono ?_
            rintro e w2 ⟨rfl, hB2, hb2⟩
            have HB2 := Lib.hid hB2
            have hbr2 := hbr.trans hb2
            clear hB2 hb2
            go_wp2_with fail
            refine (writeByte_any w.heap.size w.heap.size _ _ w2 (.inr HB2.out) (by rw [List.length_append, Lib.byteCells_length]; have := HLN.out; rw [List.length_singleton]; omega) hbr2.size).mono ?_
            rintro e w3 ⟨rfl, hB3, hb3⟩
            have HB3 := Lib.hid hB3
            have hbr3 := hbr2.trans hb3
            clear hB3 hb3
            go_wp2
            go_roundw
            case rel =>
              refine ⟨k + 1, by omega, by go_num, Lib.hid ?_, hbr3⟩
              rw [HSN.out, HS.out, Lib.byteCells_append]
              have := HB3.out
              rw [List.append_assoc] at this
              exact this
            case measure => simp [intOf]; omega
        · have HS : Hid (signT c = [c]) := Lib.hid (by unfold signT; rw [if_neg hq, if_neg (by rw [hn]; simp)])
          have q1 : ((c.toNat : Int) == 34) = false := (u8_beq_lit _ 34 (by decide)).trans (by simpa using fun e => hq (.inl e))
          have q2 : ((c.toNat : Int) == 92) = false := (u8_beq_lit _ 92 (by decide)).trans (by simpa using fun e => hq (.inr e))
          clear hq hn
          go_wp2_with fail
          rw [HC.out]
          refine (cN _).mono ?_
          rintro e w1 ⟨rfl, rfl⟩
          go_wp2_with fail
          refine (writeByte_any w.heap.size w.heap.size _ _ wr (.inr HB.out) (by rw [Lib.byteCells_length]; have := HLN.out; omega) hbr.size).mono ?_
          rintro e w2 ⟨rfl, hB2, hb2⟩
          have HB2 := Lib.hid hB2
          have hbr2 := hbr.trans hb2
          clear hB2 hb2
          go_wp2
          go_roundw
          case rel =>
            refine ⟨k + 1, by omega, by go_num, Lib.hid ?_, hbr2⟩
            rw [HSN.out, HS.out, Lib.byteCells_append]
            exact HB2.out
          case measure => simp [intOf]; omega
    · obtain rfl : k = s.size := by omega
      have HE : Hid (s.data.toList.take s.size = s.data.toList) := Lib.hid (List.take_of_length_le (by rw [HZ.out]; exact Nat.le_refl _))
      go_wp2_with fail
      refine (writeByte_any w.heap.size w.heap.size _ _ wr (.inr HB.out) (by rw [Lib.byteCells_length]; have := HLN.out; omega) hbr.size).mono ?_
      rintro e w2 ⟨rfl, hB2, hb2⟩
      have HB2 : Hid (Lib.IsBuilder 65 5 w.heap.size w.heap.size (Lib.byteCells (quoteT s.data.toList)) w2) := Lib.hid (.inr (by
        have := hB2
        rw [HE.out] at this
        unfold quoteT
        rw [← List.cons_append, Lib.byteCells_append]
        exact this))
      have hbr2 := hbr.trans hb2
      clear hB2 hb2
      go_wp2_with fail
      refine (Tryz.Builder_String_any w.heap.size w.heap.size _ w2 HB2.out hbr2.size).mono ?_
      rintro e w3 ⟨rfl, hb3⟩
      go_wp2
      go_ret
      exact ⟨rfl, hbr2.trans hb3⟩
end Go.Proofs.YtkbcklaloblmeaaGreatDoor
namespace Go.Proofs.YtkbcklaloblmeaaGreatDoor
open Go.RowKit HeadMath NormMath NormS LineMath ChunkS

def SignPost (l : Bs) (w : World) (e : Ending) (w' : World) : Prop := ∃ (c : UInt8) (n : Nat) (ok : Bool), e = .returned (.tuple #[.int .u8 c.toNat, .int .i64 n, .bool ok]) ∧ signF l = (if ok = true then some (c, n) else none) ∧ Below w.heap.size w w'
theorem SignPost.mk (l : Bs) (w : World) (c : UInt8) (n : Nat) (ok : Bool) (h : signF l = (if ok = true then some (c, n) else none)) : SignPost l w (.returned (.tuple #[.int .u8 c.toNat, .int .i64 n, .bool ok])) w := ⟨c, n, ok, rfl, h, Below.refl _ _⟩
theorem prefix_call (s p : ByteArray) (b : Bool) (h : Lib.hasPrefix s.data.toList p.data.toList = b) (w : World) : Calls Tryz.prog 69 #[.string s, .string p] w fun e w' => e = .returned (.bool b) ∧ w = w' := by
  refine (Tryz.strings_HasPrefix s p w).mono ?_
  rintro e w' ⟨rfl, hw⟩
  rw [h]
  exact ⟨rfl, hw.symm⟩
theorem list_two (s : ByteArray) (h : 1 < s.size) : ∃ r, s.data.toList = s[0] :: s[1] :: r := by
  have hl := size_list s
  match hx : s.data.toList, hl with
  | [], hl => simp at hl; omega
  | [a], hl => simp at hl; omega
  | a :: b :: r, hl =>
    refine ⟨r, ?_⟩
    have e0 := list_at s 0 (by omega)
    have e1 := list_at s 1 h
    have f0 : s.data.toList[0]'(by rw [size_list]; omega) = a := by simp only [hx]; rfl
    have f1 : s.data.toList[1]'(by rw [size_list]; omega) = b := by simp only [hx]; rfl
    rw [← e0, ← e1, f0, f1]
theorem list_one (s : ByteArray) (h : 0 < s.size) : ∃ r, s.data.toList = s[0] :: r := by
  have hl := size_list s
  match hx : s.data.toList, hl with
  | [], hl => simp at hl; omega
  | a :: r, hl =>
    refine ⟨r, ?_⟩
    have e0 := list_at s 0 h
    have f0 : s.data.toList[0]'(by rw [size_list]; omega) = a := by simp only [hx]; rfl
    rw [← e0, f0]
theorem ne_of_u8 (c : UInt8) (n : Nat) (b : Bool) (hn : n < 256) (h : (c == UInt8.ofNat n) = b) : (((c.toNat : Int)) == (n : Int)) = b := (u8_beq_lit c n hn).trans h
set_option maxRecDepth 100000 in
set_option maxHeartbeats 4000000 in
/-- What stands there is no escape. -/
theorem sign_plain (s : ByteArray) (w : World) (h0 : 0 < s.size) (p1 : Lib.hasPrefix s.data.toList [92, 34] = false) (p2 : Lib.hasPrefix s.data.toList [92, 92] = false) (p3 : Lib.hasPrefix s.data.toList [92, 120] = false) :
    Calls Tryz.prog 70 #[.string s] w (SignPost s.data.toList w) := by
  have c1 := prefix_call s ⟨#[92, 34]⟩ false p1
  have c2 := prefix_call s ⟨#[92, 92]⟩ false p2
  have c3 := prefix_call s ⟨#[92, 120]⟩ false p3
  have hl := list_one s h0
  obtain ⟨r, hr⟩ := hl
  have cN := needs_any s[0]
  by_cases h92 : s[0] = 92
  · have q1 : ((s[0].toNat : Int) != 92) = false := by rw [h92]; rfl
    have HP : Hid (signF s.data.toList = (if false = true then some (s[0], 1) else none)) := Lib.hid (by
      rw [hr, h92]
      cases r with
      | nil => rfl
      | cons d r2 =>
        rw [hr, h92] at p1 p2 p3
        have n1 : d ≠ 34 := by rintro rfl; simp [Lib.hasPrefix, List.isPrefixOf] at p1
        have n2 : d ≠ 92 := by rintro rfl; simp [Lib.hasPrefix, List.isPrefixOf] at p2
        have n3 : d ≠ 120 := by rintro rfl; simp [Lib.hasPrefix, List.isPrefixOf] at p3
        show signF (92 :: d :: r2) = none
        unfold signF
        simp only [if_true]
        rw [if_neg (by rintro (h | h); exact n1 h; exact n2 h), if_neg n3])
    clear hr h92 p1 p2 p3 cN
    go_enter Tryz.func70, Tryz.ntmps70
    go_wp2_with fail
    refine (c1 _).mono ?_
    rintro e w1 ⟨rfl, rfl⟩
    go_wp2_with fail
    refine (c2 _).mono ?_
    rintro e w1 ⟨rfl, rfl⟩
    go_wp2_with fail
    refine (c3 _).mono ?_
    rintro e w1 ⟨rfl, rfl⟩
    go_wp2
    go_quiet (fail)
    go_wp2
    go_ret3
    exact ⟨_, 1, false, rfl, HP.out, (Spares.drewN (F := nowhere) (Spares.refl _ _) _).below0⟩
  · have q1 : ((s[0].toNat : Int) != 92) = true := by
      have := (u8_beq_lit s[0] 92 (by decide))
      simp only [bne, Bool.not_eq_true']
      refine this.trans ?_
      simpa using h92
    have HP : Hid (signF s.data.toList = (if (!needs s[0]) = true then some (s[0], 1) else none)) := Lib.hid (by
      rw [hr]
      unfold signF
      simp only [if_neg h92]
      cases needs s[0] <;> rfl)
    clear hr h92 p1 p2 p3
    go_enter Tryz.func70, Tryz.ntmps70
    go_wp2_with fail
    refine (c1 _).mono ?_
    rintro e w1 ⟨rfl, rfl⟩
    go_wp2_with fail
    refine (c2 _).mono ?_
    rintro e w1 ⟨rfl, rfl⟩
    go_wp2_with fail
    refine (c3 _).mono ?_
    rintro e w1 ⟨rfl, rfl⟩
    go_wp2
    go_quiet ((go_at_call 36; exact Calls.quiet_of_same ((cN _).mono fun _ _ h => ⟨h.1, h.2.symm⟩)))
    go_wp2
    go_ret3
    exact ⟨_, 1, _, rfl, HP.out, (Spares.drewN (F := nowhere) (Spares.refl _ _) _).below0⟩
theorem hex_pair (h l : UInt8) (r : Bs) : signF (92 :: 120 :: h :: l :: r) = (if ((hexB h && hexB l) && needs (pairV h l)) = true then some (pairV h l, 4) else none) := by
  unfold signF
  simp only [if_true]
  rw [if_neg (by decide)]
  unfold pairV
  cases hexB h <;> cases hexB l <;> simp
set_option maxRecDepth 100000 in
set_option maxHeartbeats 4000000 in
theorem sign_any (s : ByteArray) (w : World) (h0 : 0 < s.size) : Calls Tryz.prog 70 #[.string s] w (SignPost s.data.toList w) := by
  cases p1 : Lib.hasPrefix s.data.toList [92, 34] with
  | true =>
    have h1 : 1 < s.size := by
      rw [← size_list s]
      match hx : s.data.toList, p1 with
      | [], p1 => cases p1
      | [_], p1 => simp [Lib.hasPrefix, List.isPrefixOf] at p1
      | _ :: _ :: _, _ => simp
    obtain ⟨r, hr⟩ := list_two s h1
    have c1 := prefix_call s ⟨#[92, 34]⟩ true p1
    have HP : Hid (signF s.data.toList = (if true = true then some (s[1], 2) else none)) := Lib.hid (by
      rw [hr] at p1 ⊢
      simp [Lib.hasPrefix, List.isPrefixOf] at p1
      rw [← p1.1, ← p1.2]
      rfl)
    clear hr p1
    go_enter Tryz.func70, Tryz.ntmps70
    go_wp2_with fail
    refine (c1 _).mono ?_
    rintro e w1 ⟨rfl, rfl⟩
    go_wp2
    go_ret3
    exact ⟨_, 2, true, rfl, HP.out, Below.refl _ _⟩
  | false =>
    cases p2 : Lib.hasPrefix s.data.toList [92, 92] with
    | true =>
      have h1 : 1 < s.size := by
        rw [← size_list s]
        match hx : s.data.toList, p2 with
        | [], p2 => cases p2
        | [_], p2 => simp [Lib.hasPrefix, List.isPrefixOf] at p2
        | _ :: _ :: _, _ => simp
      obtain ⟨r, hr⟩ := list_two s h1
      have c1 := prefix_call s ⟨#[92, 34]⟩ false p1
      have c2 := prefix_call s ⟨#[92, 92]⟩ true p2
      have HP : Hid (signF s.data.toList = (if true = true then some (s[1], 2) else none)) := Lib.hid (by
        rw [hr] at p2 ⊢
        simp [Lib.hasPrefix, List.isPrefixOf] at p2
        rw [← p2.1, ← p2.2]
        rfl)
      clear hr p1 p2
      go_enter Tryz.func70, Tryz.ntmps70
      go_wp2_with fail
      refine (c1 _).mono ?_
      rintro e w1 ⟨rfl, rfl⟩
      go_wp2_with fail
      refine (c2 _).mono ?_
      rintro e w1 ⟨rfl, rfl⟩
      go_wp2
      go_ret3
      exact ⟨_, 2, true, rfl, HP.out, Below.refl _ _⟩
    | false =>
      cases p3 : Lib.hasPrefix s.data.toList [92, 120] with
      | false => exact sign_plain s w h0 p1 p2 p3
      | true =>
        have h1 : 1 < s.size := by
          rw [← size_list s]
          match hx : s.data.toList, p3 with
          | [], p3 => cases p3
          | [_], p3 => simp [Lib.hasPrefix, List.isPrefixOf] at p3
          | _ :: _ :: _, _ => simp
        obtain ⟨r, hr⟩ := list_two s h1
        have hp3 := p3
        rw [hr] at hp3
        simp [Lib.hasPrefix, List.isPrefixOf] at hp3
        rw [← hp3.1, ← hp3.2] at hr
        have c1 := prefix_call s ⟨#[92, 34]⟩ false p1
        have c2 := prefix_call s ⟨#[92, 92]⟩ false p2
        have c3 := prefix_call s ⟨#[92, 120]⟩ true p3
        clear p1 p2 p3 hp3
        by_cases h3 : 3 < s.size
        · have cH : ∀ w, Calls Tryz.prog 93 #[.string (s.extract 2 s.size)] w fun e w' => e = .returned (.tuple #[.int .u8 (pairV s[2] s[3]).toNat, .bool (hexB s[2] && hexB s[3])]) ∧ w = w' := by
            intro w
            have e0 := extract_at s 2 s.size 0 (by omega) (Nat.le_refl _)
            have e1 := extract_at s 2 s.size 1 (by omega) (Nat.le_refl _)
            refine (hexByte_two (s.extract 2 s.size) w (by rw [extract_size _ _ _ (by omega) (Nat.le_refl _)]; omega)).mono ?_
            rintro e w' ⟨rfl, rfl⟩
            rw [e0, e1]
            exact ⟨rfl, rfl⟩
          have HS : Hid (signF s.data.toList = (if ((hexB s[2] && hexB s[3]) && needs (pairV s[2] s[3])) = true then some (pairV s[2] s[3], 4) else none)) := Lib.hid (by
            have hl := size_list s
            have f2 := list_at s 2 (by omega)
            have f3 := list_at s 3 h3
            rw [hr] at hl
            match r, hl, hr with
            | [], hl, _ => simp at hl; omega
            | [_], hl, _ => simp at hl; omega
            | a :: b :: r, _, hr =>
              have g2 : s.data.toList[2]'(by rw [size_list]; omega) = a := by simp only [hr]; rfl
              have g3 : s.data.toList[3]'(by rw [size_list]; omega) = b := by simp only [hr]; rfl
              rw [← f2, ← f3, g2, g3, hr]
              exact hex_pair a b r)
          obtain ⟨v, hv⟩ : ∃ v, pairV s[2] s[3] = v := ⟨_, rfl⟩
          obtain ⟨b, hb⟩ : ∃ b, (hexB s[2] && hexB s[3]) = b := ⟨_, rfl⟩
          rw [hv, hb] at HS
          simp only [hv, hb] at cH
          clear hr hv hb
          have cN := needs_any v
          cases b with
          | false =>
            go_enter Tryz.func70, Tryz.ntmps70
            go_wp2_with fail
            refine (c1 _).mono ?_
            rintro e w1 ⟨rfl, rfl⟩
            go_wp2_with fail
            refine (c2 _).mono ?_
            rintro e w1 ⟨rfl, rfl⟩
            go_wp2_with fail
            refine (c3 _).mono ?_
            rintro e w1 ⟨rfl, rfl⟩
            go_wp2_with fail
            refine (cH _).mono ?_
            rintro e w1 ⟨rfl, rfl⟩
            go_wp2
            go_ret3
            exact ⟨_, 4, false, rfl, HS.out.trans (by simp), Below.refl _ _⟩
          | true =>
            go_enter Tryz.func70, Tryz.ntmps70
            go_wp2_with fail
            refine (c1 _).mono ?_
            rintro e w1 ⟨rfl, rfl⟩
            go_wp2_with fail
            refine (c2 _).mono ?_
            rintro e w1 ⟨rfl, rfl⟩
            go_wp2_with fail
            refine (c3 _).mono ?_
            rintro e w1 ⟨rfl, rfl⟩
            go_wp2_with fail
            refine (cH _).mono ?_
            rintro e w1 ⟨rfl, rfl⟩
            go_wp2_with fail
            refine (cN _).mono ?_
            rintro e w1 ⟨rfl, rfl⟩
            go_wp2
            go_ret3
            exact ⟨_, 4, _, rfl, HS.out, Below.refl _ _⟩
        · have cH : ∀ w, Calls Tryz.prog 93 #[.string (s.extract 2 s.size)] w fun e w' => e = .returned (.tuple #[.int .u8 0, .bool false]) ∧ w = w' := fun w =>
            hexByte_short _ w (by rw [extract_size _ _ _ (by omega) (Nat.le_refl _)]; omega)
          have HS : Hid (signF s.data.toList = none) := Lib.hid (by
            have hl := size_list s
            rw [hr] at hl
            match r, hl, hr with
            | [], _, hr => rw [hr]; rfl
            | [_], _, hr => rw [hr]; rfl
            | _ :: _ :: _, hl, _ => simp at hl; omega)
          clear hr
          go_enter Tryz.func70, Tryz.ntmps70
          go_wp2_with fail
          refine (c1 _).mono ?_
          rintro e w1 ⟨rfl, rfl⟩
          go_wp2_with fail
          refine (c2 _).mono ?_
          rintro e w1 ⟨rfl, rfl⟩
          go_wp2_with fail
          refine (c3 _).mono ?_
          rintro e w1 ⟨rfl, rfl⟩
          go_wp2_with fail
          refine (cH _).mono ?_
          rintro e w1 ⟨rfl, rfl⟩
          go_wp2
          go_ret3
          exact ⟨0, 4, false, rfl, HS.out, Below.refl _ _⟩
end Go.Proofs.YtkbcklaloblmeaaGreatDoor
namespace Go.Proofs.YtkbcklaloblmeaaGreatDoor
open Go.RowKit HeadMath NormMath NormS LineMath ChunkS

def strLenL : Value → Nat
  | .string s => s.size
  | _ => 0
def arrS (l : Bs) : ByteArray := ⟨l.toArray⟩
theorem arrS_list (l : Bs) : (arrS l).data.toList = l := by unfold arrS; simp
theorem arrS_size (l : Bs) : (arrS l).size = l.length := by show l.toArray.size = _; simp
theorem arrS_of (s : ByteArray) : arrS s.data.toList = s := by unfold arrS; simp
def quotedV (l : Bs) : Value := match quotedF l with
  | some (v, t) => .tuple #[.string (arrS v), .string (arrS t), .bool true]
  | none => .tuple #[.string ⟨#[]⟩, .string ⟨#[]⟩, .bool false]
def QuotedPost (l : Bs) (w : World) (e : Ending) (w' : World) : Prop := e = .returned (quotedV l) ∧ Below w.heap.size w w'
/-- A loop's round stands at rest with acc read. -/
def QAt (l : Bs) (acc rest : Bs) : Prop := ∃ f, rest.length < f ∧ quotedF l = quotedG f acc rest
theorem quotedG_more : ∀ (f g : Nat) (acc rest : Bs), rest.length < f → rest.length < g → quotedG f acc rest = quotedG g acc rest
  | 0, _, _, _, h, _ => absurd h (Nat.not_lt_zero _)
  | _ + 1, 0, _, _, _, h => absurd h (Nat.not_lt_zero _)
  | f + 1, g + 1, acc, [], _, _ => rfl
  | f + 1, g + 1, acc, c :: r, hf, hg => by
    rw [quotedG, quotedG]
    by_cases h : c = 34
    · rw [if_pos h, if_pos h]
    · rw [if_neg h, if_neg h]
      cases hs : signF (c :: r) with
      | none => rfl
      | some p =>
        obtain ⟨x, n⟩ := p
        simp only
        have hn : 0 < n := by
          unfold signF at hs
          simp only at hs
          split at hs
          · split at hs
            · split at hs
              · injection hs with hs; injection hs with _ hs; omega
              · split at hs
                · split at hs
                  · split at hs
                    · injection hs with hs; injection hs with _ hs; omega
                    · cases hs
                  · cases hs
                · cases hs
            · cases hs
          · split at hs
            · cases hs
            · injection hs with hs; injection hs with _ hs; omega
        exact quotedG_more f g _ _ (by simp at hf ⊢; omega) (by simp at hg ⊢; omega)
theorem QAt.none {l acc : Bs} (h : QAt l acc []) : quotedF l = none := by
  obtain ⟨f, hf, e⟩ := h
  rw [e]
  cases f <;> rfl
theorem QAt.done {l acc r : Bs} (h : QAt l acc (34 :: r)) : quotedF l = some (acc, r) := by
  obtain ⟨f, hf, e⟩ := h
  rw [e]
  cases f with
  | zero => exact absurd hf (Nat.not_lt_zero _)
  | succ f => rw [quotedG, if_pos rfl]
theorem QAt.bad {l acc r : Bs} {c : UInt8} (h : QAt l acc (c :: r)) (hc : c ≠ 34) (hs : signF (c :: r) = .none) : quotedF l = .none := by
  obtain ⟨f, hf, e⟩ := h
  rw [e]
  cases f with
  | zero => exact absurd hf (Nat.not_lt_zero _)
  | succ f => rw [quotedG, if_neg hc, hs]
theorem sign_pos {l : Bs} {x : UInt8} {n : Nat} (hs : signF l = some (x, n)) : 0 < n ∧ n ≤ l.length := by
  cases l with
  | nil => cases hs
  | cons c r =>
    unfold signF at hs
    simp only at hs
    split at hs
    · split at hs
      · split at hs
        · injection hs with hs; injection hs with _ hs; simp; omega
        · split at hs
          · split at hs
            · split at hs
              · injection hs with hs; injection hs with _ hs; simp; omega
              · cases hs
            · cases hs
          · cases hs
      · cases hs
    · split at hs
      · cases hs
      · injection hs with hs; injection hs with _ hs; simp; omega
theorem QAt.step {l acc r : Bs} {c x : UInt8} {n : Nat} (h : QAt l acc (c :: r)) (hc : c ≠ 34) (hs : signF (c :: r) = some (x, n)) : QAt l (acc ++ [x]) ((c :: r).drop n) := by
  obtain ⟨f, hf, e⟩ := h
  cases f with
  | zero => exact absurd hf (Nat.not_lt_zero _)
  | succ f =>
    rw [quotedG, if_neg hc, hs] at e
    exact ⟨f, by have := (sign_pos hs).1; simp at hf ⊢; omega, e⟩
theorem extract_arr (s : ByteArray) (k : Nat) : s.extract k s.size = arrS (s.data.toList.drop k) := by
  apply ByteArray.ext
  apply Array.ext'
  show (s.extract k s.size).data.toList = (arrS _).data.toList
  rw [Lib.extract_to_end, arrS_list]
set_option maxRecDepth 100000 in
set_option maxHeartbeats 4000000 in
theorem quoted_any (s : ByteArray) (w : World) (hs : s.size ≤ 140737488351232) : Calls Tryz.prog 40 #[.string s] w (QuotedPost s.data.toList w) := by
  have HZ := Lib.hid (size_list s)
  unfold QuotedPost
  cases p1 : Lib.hasPrefix s.data.toList [34] with
  | false =>
    have c1 := prefix_call s ⟨#[34]⟩ false p1
    have HV : Hid (quotedV s.data.toList = .tuple #[.string ⟨#[]⟩, .string ⟨#[]⟩, .bool false]) := Lib.hid (by
      have : quotedF s.data.toList = none := by
        match hx : s.data.toList, p1 with
        | [], _ => rfl
        | c :: r, p1 =>
          have : c ≠ 34 := by rintro rfl; simp [Lib.hasPrefix, List.isPrefixOf] at p1
          show (if c = 34 then _ else _) = _
          rw [if_neg this]
      unfold quotedV; rw [this])
    clear p1
    go_enter Tryz.func40, Tryz.ntmps40
    go_wp2_with fail
    refine (c1 _).mono ?_
    rintro e w1 ⟨rfl, rfl⟩
    go_wp2
    go_ret3
    exact ⟨by rw [HV.out]; rfl, Below.refl _ _⟩
  | true =>
    have c1 := prefix_call s ⟨#[34]⟩ true p1
    have hl : ∃ r, s.data.toList = 34 :: r := by
      match hx : s.data.toList, p1 with
      | [], p1 => cases p1
      | c :: r, p1 =>
        have : 34 = c := by simpa [Lib.hasPrefix, List.isPrefixOf] using p1
        exact ⟨r, by rw [this]⟩
    obtain ⟨r, hr⟩ := hl
    have h0 : 1 ≤ s.size := by rw [← HZ.out, hr]; simp
    have HST : Hid (QAt s.data.toList [] r) := Lib.hid ⟨r.length + 1, Nat.lt_succ_self _, by rw [hr]; rfl⟩
    have HX : Hid (s.extract 1 s.size = arrS r) := Lib.hid (by rw [extract_arr, hr]; rfl)
    have HRS : Hid (r.length + 1 = s.size) := Lib.hid (by rw [← HZ.out, hr]; rfl)
    clear p1 hr
    go_enter Tryz.func40, Tryz.ntmps40
    go_wp2_with fail
    refine (c1 _).mono ?_
    rintro e w1 ⟨rfl, rfl⟩
    go_wp2
    rw [HX.out]
    go_loopw [6] (fun v wr => ∃ (rb : ByteArray) (acc : Bs), v = .string rb ∧ Hid (QAt s.data.toList acc rb.data.toList) ∧ acc.length + rb.size < s.size ∧ Hid (Lib.IsBuilder 65 5 w.heap.size w.heap.size (Lib.byteCells acc) wr) ∧ Below w.heap.size w wr)
      (fun v _ => strLenL v)
    case atStart => exact ⟨_, [], rfl, Lib.hid (by rw [arrS_list]; exact HST.out), by rw [arrS_size]; have := HRS.out; simp; omega, Lib.hid built_empty, (Below.refl _ _).alloc (Nat.le_refl _) _⟩
    case round =>
      obtain ⟨rb, acc, rfl, HQ, hlen, HB, hbr⟩ := hrel
      by_cases z0 : 0 < rb.size
      · obtain ⟨q, hq⟩ := list_one rb z0
        have ze : (!rb.toList.isEmpty) = true := by rw [Lib.toList_data, hq]; rfl
        have HR := Lib.hid hq
        clear hq
        by_cases hc : rb[0] = 34
        · have q1 : ((rb[0].toNat : Int) == 34) = true := (u8_beq_lit _ 34 (by decide)).trans (by simpa using hc)
          have HV : Hid (quotedV s.data.toList = .tuple #[.string (arrS acc), .string (rb.extract 1 rb.size), .bool true]) := Lib.hid (by
            have h1 := HQ.out
            rw [HR.out, hc] at h1
            unfold quotedV
            rw [h1.done]
            simp only
            rw [extract_arr, HR.out]
            rfl)
          clear hc
          have hdr : Below wr.heap.size wr wr.drew := (Spares.drew (F := nowhere) (Spares.refl _ _)).below0
          have hbrd := hbr.trans (hdr.mono hbr.size)
          have cS := Tryz.Builder_String_any w.heap.size w.heap.size _ wr.drew (isBuilder_below HB.out hdr) hbrd.size
          clear hdr
          go_wp2
          go_region_with (first | (go_at_call 39; refine cS.mono ?_; rintro e w2 ⟨rfl, hb2⟩) | fail)
          all_goals
            go_wp2
            go_ret3
            exact ⟨by rw [HV.out]; rfl, hbrd.trans hb2⟩
        · have q1 : ((rb[0].toNat : Int) == 34) = false := (u8_beq_lit _ 34 (by decide)).trans (by simpa using hc)
          have cS := sign_any rb wr z0
          have HC := Lib.hid hc
          clear hc
          go_wp2_with fail
          refine cS.mono ?_
          rintro e w2 ⟨c, n, ok, rfl, hsg, hb2⟩
          have HSG := Lib.hid hsg
          have HB2 := Lib.hid (isBuilder_below HB.out hb2)
          have hbr2 := hbr.trans (hb2.mono hbr.size)
          clear hsg hb2 cS
          cases ok with
          | false =>
            have HV : Hid (quotedV s.data.toList = .tuple #[.string ⟨#[]⟩, .string ⟨#[]⟩, .bool false]) := Lib.hid (by
              have h1 := HQ.out
              have h2 := HSG.out
              rw [HR.out] at h1 h2
              unfold quotedV
              rw [h1.bad HC.out (h2.trans (by simp))])
            go_wp2
            go_ret3
            exact ⟨by rw [HV.out]; rfl, hbr2⟩
          | true =>
            have hsome : signF rb.data.toList = some (c, n) := HSG.out.trans (by simp)
            have hn := sign_pos hsome
            rw [size_list] at hn
            have HN : Hid (QAt s.data.toList (acc ++ [c]) (rb.data.toList.drop n)) := Lib.hid (by
              have h1 := HQ.out
              have h2 := hsome
              rw [HR.out] at h1 h2 ⊢
              exact h1.step HC.out h2)
            obtain ⟨n1, n2⟩ := hn
            clear hsome
            go_wp2_with fail
            refine (writeByte_any w.heap.size w.heap.size _ _ w2 HB2.out (by rw [Lib.byteCells_length]; omega) hbr2.size).mono ?_
            rintro e w3 ⟨rfl, hB3, hb3⟩
            have HB3 := Lib.hid hB3
            have hbr3 := hbr2.trans hb3
            clear hB3 hb3
            go_wp2
            go_roundw
            case rel =>
              refine ⟨rb.extract n rb.size, acc ++ [c], rfl, Lib.hid ?_, ?_, Lib.hid (.inr ?_), hbr3⟩
              · rw [Lib.extract_to_end]; exact HN.out
              · rw [List.length_append, List.length_singleton, ByteArray.size_extract]; omega
              · rw [Lib.byteCells_append]; exact HB3.out
            case measure => simp [strLenL]; omega
      · have HE : Hid (rb.data.toList = []) := Lib.hid (List.eq_nil_of_length_eq_zero (by rw [size_list]; omega))
        have ze : (!rb.toList.isEmpty) = false := by rw [Lib.toList_data, HE.out]; rfl
        have HV : Hid (quotedV s.data.toList = .tuple #[.string ⟨#[]⟩, .string ⟨#[]⟩, .bool false]) := Lib.hid (by
          have h1 := HQ.out
          rw [HE.out] at h1
          unfold quotedV
          rw [h1.none])
        go_wp2
        go_ret3
        exact ⟨by rw [HV.out]; rfl, hbr⟩
end Go.Proofs.YtkbcklaloblmeaaGreatDoor
