/-
  norm's Escapes answers what the mathematics says.
-/
import Derived.Test.YtokgpmelhmaokaaDoorNormByte
import Derived.Test.YtokgpmelhmaokaaDoorBuilderW
namespace Go.Proofs.YtokgpmelhmaokaaDoor
open Go.RowKit HeadMath NormMath

theorem size_list (s : ByteArray) : s.data.toList.length = s.size := by simp
theorem list_at (s : ByteArray) (j : Nat) (h : j < s.size) : s.data.toList[j]'(by rw [size_list]; exact h) = s[j] := rfl
theorem extract_size (s : ByteArray) (a b : Nat) (_h : a ≤ b) (hb : b ≤ s.size) : (s.extract a b).size = b - a := by
  rw [ByteArray.size_extract]; omega
theorem extract_at (s : ByteArray) (a b j : Nat) (h : a + j < b) (hb : b ≤ s.size) : (s.extract a b)[j]'(by rw [extract_size s a b (by omega) hb]; omega) = s[a + j] := by
  rw [ByteArray.getElem_extract]

theorem builder_below {B b : Nat} {p : Value} {bs : List Value} {w w' : World} (h : Lib.BuilderAt 36 5 B b p bs w) (hb : Below w.heap.size w w') : Lib.BuilderAt 36 5 B b p bs w' := by
  have hlt := h.lt
  obtain ⟨h1, v, h2, h3, h4⟩ := h
  exact ⟨h1, v, by rw [hb.block b hlt]; exact h2, h3.kept (row := none) ⟨hb.os, hb.tape, hb.output, hb.size, fun k hk _ => hb.block k hk⟩ (Classical.em _), h4⟩
theorem isBuilder_below {B b : Nat} {bs : List Value} {w w' : World} (h : Lib.IsBuilder 36 5 B b bs w) (hb : Below w.heap.size w w') : Lib.IsBuilder 36 5 B b bs w' :=
  h.elim (fun h => .inl (builder_below h hb)) (fun h => .inr (builder_below h hb))

theorem hexAt_short (s : ByteArray) (k : Nat) (w : World) (hk : k < s.size) (h : s.size ≤ k + 2) :
    Calls Tryd.prog 19 #[.string (s.extract (k + 1) s.size)] w fun e w' => e = .returned (.tuple #[.int .u8 0, .bool false]) ∧ w = w' :=
  hexByte_short _ w (by rw [extract_size _ _ _ (by omega) (Nat.le_refl _)]; omega)
theorem hexAt_two (s : ByteArray) (k : Nat) (w : World) (h : k + 2 < s.size) :
    Calls Tryd.prog 19 #[.string (s.extract (k + 1) s.size)] w fun e w' => e = .returned (.tuple #[.int .u8 (pairV s[k + 1] s[k + 2]).toNat, .bool (hexB s[k + 1] && hexB s[k + 2])]) ∧ w = w' := by
  have e0 := extract_at s (k + 1) s.size 0 (by omega) (Nat.le_refl _)
  have e1 := extract_at s (k + 1) s.size 1 (by omega) (Nat.le_refl _)
  refine (hexByte_two (s.extract (k + 1) s.size) w (by rw [extract_size _ _ _ (by omega) (Nat.le_refl _)]; omega)).mono ?_
  rintro e w' ⟨rfl, rfl⟩
  rw [e0, e1]
  exact ⟨rfl, rfl⟩
theorem upper_eq (c : UInt8) : Lib.upperB c = upB c := by
  unfold Lib.upperB upB Lib.isLowerB
  have := c.toNat_lt
  by_cases h : 97 ≤ c.toNat ∧ c.toNat ≤ 122
  · rw [if_pos h, if_pos (by simpa [UInt8.le_iff_toNat_le] using h)]
    apply UInt8.toNat_inj.1
    rw [UInt8.toNat_sub_of_le _ _ (by rw [UInt8.le_iff_toNat_le]; simp; omega)]
    simp; omega
  · rw [if_neg h, if_neg (by simpa [UInt8.le_iff_toNat_le] using h)]
theorem hex_ascii {c : UInt8} (h : hexB c = true) : c.toNat < 128 := by
  unfold hexB hexV at h
  split at h
  · omega
  · split at h
    · omega
    · split at h
      · omega
      · cases h
theorem extract_three (s : ByteArray) (k : Nat) (h : k + 2 < s.size) : (s.extract k (k + 3)).data.toList = [s[k], s[k + 1], s[k + 2]] := by
  apply List.ext_getElem
  · rw [size_list, extract_size _ _ _ (by omega) (by omega)]; simp
  · intro j h1 h2
    have hj : j < 3 := by simpa using h2
    have hs : j < (s.extract k (k + 3)).size := by rw [extract_size _ _ _ (by omega) (by omega)]; omega
    rw [list_at _ j hs, extract_at s k (k + 3) j (by omega) (by omega)]
    match j, hj with
    | 0, _ => rfl
    | 1, _ => rfl
    | 2, _ => rfl
theorem upper_three (s : ByteArray) (k : Nat) (w : World) (h : k + 2 < s.size) (h0 : s[k] = 37) (h1 : hexB s[k + 1] = true) (h2 : hexB s[k + 2] = true) :
    Calls Tryd.prog 22 #[.string (s.extract k (k + 3))] w fun e w' => e = .returned (.string ⟨#[37, upB s[k + 1], upB s[k + 2]]⟩) ∧ Below w.heap.size w w' := by
  have e3 := extract_three s k h
  have a1 := hex_ascii h1
  have a2 := hex_ascii h2
  refine (Tryd.strings_ToUpper_ascii (s.extract k (k + 3)) w (by rw [extract_size _ _ _ (by omega) (by omega)]; omega) ?_).mono ?_
  · intro j b hj
    rw [e3] at hj
    match j, hj with
    | 0, hj => cases hj; rw [h0]; decide
    | 1, hj => cases hj; exact a1
    | 2, hj => cases hj; exact a2
    | j + 3, hj => simp at hj
  · rintro e w' ⟨rfl, hb⟩
    refine ⟨?_, hb⟩
    rw [e3, h0]
    simp only [Lib.toUpperA, List.map_cons, List.map_nil, upper_eq]
    rfl
theorem built_empty {w : World} : Lib.IsBuilder 36 5 w.heap.size w.heap.size [] (w.alloc (.cells #[.pointer none, .slice none 0 0] 36)) := Lib.fresh_isBuilder _ _ w

def escV (s : List UInt8) : Value := match esc s with
  | some x => .tuple #[.string ⟨x.toArray⟩, .bool true]
  | none => .tuple #[.string ⟨#[]⟩, .bool false]
theorem hexB_none {c : UInt8} (h : hexB c = false) : hexV c = none := by
  unfold hexB at h; cases hv : hexV c with
  | none => rfl
  | some a => rw [hv] at h; cases h
theorem hexB_some {c : UInt8} (h : hexB c = true) : hexV c = some (hexN c) := by
  unfold hexB at h; unfold hexN; cases hv : hexV c with
  | none => rw [hv] at h; cases h
  | some a => rfl

set_option maxHeartbeats 4000000 in
theorem escapes_any (s : ByteArray) (w : World) (hs : s.size ≤ 1000000000000) :
    Calls Tryd.prog 8 #[.string s] w fun e w' => e = .returned (escV s.data.toList) ∧ Below w.heap.size w w' := by
  have HZ := Lib.hid (size_list s)
  go_enter Tryd.func8, Tryd.ntmps8
  go_wp2
  go_loopw [5] (fun i wr => ∃ (k : Nat) (acc : List UInt8), k ≤ s.size ∧ i = .int .i64 k ∧ Hid (EscAt s.data.toList k acc) ∧ Lib.IsBuilder 36 5 w.heap.size w.heap.size (Lib.byteCells acc) wr ∧ Below w.heap.size w wr)
    (fun i _ => s.size - (intOf i).toNat)
  case atStart => exact ⟨0, [], Nat.zero_le _, rfl, Lib.hid (EscAt.zero _), built_empty, (Below.refl _ _).alloc (Nat.le_refl _) _⟩
  case round =>
    obtain ⟨k, acc, hk, rfl, HA, hB, hbr⟩ := hrel
    have HB := Lib.hid hB
    clear hB
    have HAL := Lib.hid HA.out.2
    by_cases hlt : k < s.size
    · by_cases hc : s[k] = 37
      · have q : ((s[k].toNat : Int) == 37) = true := (u8_beq_lit _ 37 (by decide)).trans (by simpa using hc)
        have HC := Lib.hid hc
        clear hc
        by_cases h2 : k + 2 < s.size
        · have cH := hexAt_two s k
          have HV : Hid (escPair s[k + 1] s[k + 2] = if (hexB s[k + 1] && hexB s[k + 2]) = true then some (escOne (pairV s[k + 1] s[k + 2])) else none) := by
            refine Lib.hid ?_
            cases h3 : hexB s[k + 1] with
            | false => rw [escPair_none (Or.inl (hexB_none h3))]; rfl
            | true =>
              cases h4 : hexB s[k + 2] with
              | false => rw [escPair_none (Or.inr (hexB_none h4))]; rfl
              | true => rw [escPair_some (hexB_some h3) (hexB_some h4)]; rfl
          cases hbb : (hexB s[k + 1] && hexB s[k + 2]) with
          | false =>
            have HE := Lib.hid (show escV s.data.toList = .tuple #[.string ⟨#[]⟩, .bool false] by
              have hn : hexV s[k + 1] = none ∨ hexV s[k + 2] = none := by
                rw [Bool.and_eq_false_iff] at hbb
                exact hbb.imp hexB_none hexB_none
              unfold escV; rw [HA.out.bad (by rw [HZ.out]; exact h2) HC.out hn])
            have cH2 : ∀ w, Calls Tryd.prog 19 #[.string (s.extract (k + 1) s.size)] w fun e w' => e = .returned (.tuple #[.int .u8 (pairV s[k + 1] s[k + 2]).toNat, .bool false]) ∧ w = w' := by
              intro w; have := cH w h2; rwa [hbb] at this
            clear cH hbb HV
            go_wp2_with fail
            refine (cH2 _).mono ?_
            rintro e w1 ⟨rfl, rfl⟩
            go_wp2
            go_ret2
            rw [HE.out]
            exact ⟨rfl, hbr⟩
          | true =>
            have hb1 : hexB s[k + 1] = true := by rw [Bool.and_eq_true] at hbb; exact hbb.1
            have hb2 : hexB s[k + 2] = true := by rw [Bool.and_eq_true] at hbb; exact hbb.2
            have cU := fun w => upper_three s k w h2 HC.out hb1 hb2
            have HN := Lib.hid (HA.out.pair (by rw [HZ.out]; exact h2) HC.out (hexB_some hb1) (hexB_some hb2))
            have HQ : Hid (plainB (pairV s[k + 1] s[k + 2]) = false → escOne (pairV s[k + 1] s[k + 2]) = [37, upB s[k + 1], upB s[k + 2]]) := Lib.hid (fun h => escOne_up (hexB_some hb1) (hexB_some hb2) h)
            have HN2 : Hid (EscAt s.data.toList (k + 3) (acc ++ escOne (pairV s[k + 1] s[k + 2]))) := HN
            have cH2 : ∀ w, Calls Tryd.prog 19 #[.string (s.extract (k + 1) s.size)] w fun e w' => e = .returned (.tuple #[.int .u8 (pairV s[k + 1] s[k + 2]).toNat, .bool true]) ∧ w = w' := by
              intro w; have := cH w h2; rwa [hbb] at this
            clear cH hbb HV HN hb1 hb2
            obtain ⟨x, hx⟩ : ∃ x, upB s[k + 1] = x := ⟨_, rfl⟩
            obtain ⟨y, hy⟩ : ∃ y, upB s[k + 2] = y := ⟨_, rfl⟩
            rw [hx, hy] at HQ
            simp only [hx, hy] at cU
            obtain ⟨v, hv⟩ : ∃ v, pairV s[k + 1] s[k + 2] = v := ⟨_, rfl⟩
            rw [hv] at HQ HN2
            simp only [hv] at cH2
            clear hv hx hy
            have cP := plain_any v
            cases hp : plainB v with
            | true =>
              have HO := Lib.hid (show escOne v = [v] by unfold escOne; rw [if_pos hp])
              rw [hp] at cP
              clear hp cU
              go_wp2_with fail
              refine (cH2 _).mono ?_
              rintro e w1 ⟨rfl, rfl⟩
              go_wp2_with fail
              refine (cP _).mono ?_
              rintro e w1 ⟨rfl, rfl⟩
              go_wp2_with fail
              refine (writeByte_any w.heap.size w.heap.size _ _ wr HB.out (by rw [Lib.byteCells_length]; have := HAL.out; omega) hbr.size).mono ?_
              rintro e w1 ⟨rfl, hB1, hb1⟩
              have HB1 := Lib.hid hB1
              have hbr1 := hbr.trans hb1
              clear hB1 hb1
              go_wp2
              go_roundw
              case rel =>
                refine ⟨k + 3, acc ++ [v], by omega, by go_num, by rw [← HO.out]; exact HN2, ?_, hbr1⟩
                rw [Lib.byteCells_append]
                exact Or.inr (by simpa [Lib.byteCells] using HB1.out)
              case measure => simp [intOf]; omega
            | false =>
              have HO := Lib.hid (HQ.out hp)
              rw [hp] at cP
              clear hp
              go_wp2_with fail
              refine (cH2 _).mono ?_
              rintro e w1 ⟨rfl, rfl⟩
              go_wp2_with fail
              refine (cP _).mono ?_
              rintro e w1 ⟨rfl, rfl⟩
              go_wp2_with fail
              refine (cU _).mono ?_
              rintro e w1 ⟨rfl, hbu⟩
              have HB0 := Lib.hid (isBuilder_below HB.out hbu)
              have hbr0 := hbr.trans (hbu.mono hbr.size)
              clear hbu
              go_wp2_with fail
              refine (writeString_any w.heap.size w.heap.size _ _ w1 HB0.out (by rw [Lib.byteCells_length]; have h1 := HAL.out; have hz : ({ data := #[37, x, y] } : ByteArray).size = 3 := rfl; rw [hz]; omega) hbr0.size).mono ?_
              rintro e w2 ⟨rfl, hB1, hb1, _⟩
              have HB1 := Lib.hid hB1
              have hbr1 := hbr0.trans hb1
              clear hB1 hb1
              go_wp2
              go_roundw
              case rel =>
                refine ⟨k + 3, acc ++ [37, x, y], by omega, by go_num, by rw [← HO.out]; exact HN2, ?_, hbr1⟩
                rw [Lib.byteCells_append]
                exact Or.inr (by simpa [Lib.byteCells, Lib.strCells] using HB1.out)
              case measure => simp [intOf]; omega
        · have HE := Lib.hid (show escV s.data.toList = .tuple #[.string ⟨#[]⟩, .bool false] by
            unfold escV; rw [HA.out.short (by rw [HZ.out]; exact hlt) HC.out (by rw [HZ.out]; omega)])
          have cH := fun w => hexAt_short s k w hlt (by omega)
          go_wp2_with fail
          refine (cH _).mono ?_
          rintro e w1 ⟨rfl, rfl⟩
          go_wp2
          go_ret2
          rw [HE.out]
          exact ⟨rfl, hbr⟩
      · have q : ((s[k].toNat : Int) == 37) = false := (u8_beq_lit _ 37 (by decide)).trans (by simpa using hc)
        have HN := Lib.hid (HA.out.byte (by rw [HZ.out]; exact hlt) hc)
        clear hc
        go_wp2_with fail
        refine (writeByte_any w.heap.size w.heap.size _ _ wr HB.out (by rw [Lib.byteCells_length]; have := HAL.out; omega) hbr.size).mono ?_
        rintro e w1 ⟨rfl, hB1, hb1⟩
        have HB1 := Lib.hid hB1
        have hbr1 := hbr.trans hb1
        clear hB1 hb1
        go_wp2
        go_roundw
        case rel =>
          refine ⟨k + 1, acc ++ [s[k]], by omega, by go_num, HN, ?_, hbr1⟩
          rw [Lib.byteCells_append]
          exact Or.inr (by simpa [Lib.byteCells] using HB1.out)
        case measure => simp [intOf]; omega
    · have HE := Lib.hid (show escV s.data.toList = .tuple #[.string ⟨acc.toArray⟩, .bool true] by
        unfold escV; rw [HA.out.last (by rw [HZ.out]; omega)])
      go_wp2_with fail
      refine (Tryd.Builder_String_any w.heap.size w.heap.size _ wr HB.out hbr.size).mono ?_
      rintro e w2 ⟨rfl, hb2⟩
      go_wp2
      go_ret2
      rw [HE.out]
      exact ⟨rfl, hbr.trans hb2⟩
end Go.Proofs.YtokgpmelhmaokaaDoor
