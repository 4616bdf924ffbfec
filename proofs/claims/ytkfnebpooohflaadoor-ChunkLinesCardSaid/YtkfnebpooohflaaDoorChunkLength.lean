/-
  The line ahead of a chunk.
-/
import Derived.Test.YtkfnebpooohflaaDoorChunkReader
import Derived.Test.YtkfnebpooohflaaDoorHeadStrs
import Derived.Test.YtkfnebpooohflaaDoorNormByte
import Derived.Test.YtkfnebpooohflaaDoorShelf
import Derived.Laws.BitsAllLaws
import Derived.Lib.Strings
namespace Go.Proofs.YtkfnebpooohflaaDoor
open Go.RowKit HeadMath NormMath NormS HeadS ChunkMath

theorem i64_or_nat (a b : Nat) (ha : a < 9223372036854775808) (hb : b < 9223372036854775808) : Go.bits .or .i64 (a : Int) (b : Int) = ((a ||| b : Nat) : Int) := by
  have hx : a ||| b < 2 ^ 63 := Nat.or_lt_two_pow (by omega) (by omega)
  have h1 : ∀ c : Nat, c < 9223372036854775808 → (BitVec.ofInt 64 (c : Int)).toNat = c := fun c hc => by
    rw [BitVec.ofInt_natCast, BitVec.toNat_ofNat]; exact Nat.mod_eq_of_lt (by omega)
  show IntKind.i64.wrap ((BitVec.ofInt 64 (a : Int) ||| BitVec.ofInt 64 (b : Int)).toNat : Int) = _
  rw [BitVec.toNat_or, h1 a ha, h1 b hb]
  exact IntWalk.i64_in _ (by omega)
theorem or_digit (n v : Nat) (hn : n < 268435456) (hv : v < 16) : Go.bits .or .i64 ((n : Int) * 16) (v : Int) = ((16 * n + v : Nat) : Int) := by
  rw [show ((n : Int) * 16) = ((16 * n : Nat) : Int) by omega, i64_or_nat _ _ (by omega) (by omega)]
  congr 1
  have := Nat.two_pow_add_eq_or_of_lt (i := 4) (b := v) (by simpa using hv) n
  rw [show (2 : Nat) ^ 4 = 16 from rfl] at this
  exact this.symm
theorem wrap_sixteen (n : Nat) (hn : n < 268435456) : wrap64 ((n : Int) * 16) = (n : Int) * 16 := by unfold wrap64; omega
theorem valH_lt : ∀ (ds : Bs), valH ds < 16 ^ ds.length := by
  intro ds
  suffices h : ∀ (l : Bs) (n : Nat), l.foldl (fun n c => 16 * n + hexN c) n < (n + 1) * 16 ^ l.length by
    have := h ds 0
    unfold valH; omega
  intro l
  induction l with
  | nil => intro n; simp
  | cons c l ih =>
    intro n
    have h1 := ih (16 * n + hexN c)
    have hc := hexN_lt c
    rw [List.foldl_cons, List.length_cons, Nat.pow_succ]
    have h2 : (16 * n + hexN c + 1) * 16 ^ l.length ≤ ((n + 1) * 16) * 16 ^ l.length := Nat.mul_le_mul_right _ (by omega)
    have e : (n + 1) * (16 ^ l.length * 16) = ((n + 1) * 16) * 16 ^ l.length := by rw [Nat.mul_comm (16 ^ l.length) 16, Nat.mul_assoc]
    omega
theorem blank_text {c : UInt8} (h : blankB c = true) : textB c = true := by
  unfold blankB at h
  rw [Bool.or_eq_true, beq_iff_eq, beq_iff_eq] at h
  rcases h with rfl | rfl <;> rfl
theorem trimL_text (s : Bs) : (trimL s).all textB = s.all textB := by
  induction s with
  | nil => rfl
  | cons c s ih =>
    unfold trimL at ih ⊢
    rw [List.dropWhile_cons]
    split
    · rename_i h
      rw [ih, List.all_cons, blank_text h, Bool.true_and]
    · rfl
theorem value_trim (s : Bs) : valueF (trimF s) = s.all textB := by
  unfold valueF
  rw [trimF_id (trimF_bare s)]
  have h : (trimF s).all textB = s.all textB := by
    unfold trimF
    rw [trimL_text, List.all_reverse, trimL_text, List.all_reverse]
  rw [h, beq_self_eq_true, Bool.and_true]
/-- The digits that a line begins with. -/
theorem digits_at {l : Bs} {k : Nat} (h : (l.take k).all hexB = true) (hk : k ≤ l.length) (hn : ∀ x, l[k]? = some x → hexB x = false) : l.takeWhile hexB = l.take k ∧ l.dropWhile hexB = l.drop k := by
  induction k generalizing l with
  | zero =>
    cases l with
    | nil => exact ⟨rfl, rfl⟩
    | cons c l =>
      have := hn c rfl
      rw [List.takeWhile_cons, List.dropWhile_cons, this]
      simp
  | succ k ih =>
    cases l with
    | nil => simp at hk
    | cons c l =>
      rw [List.take_succ_cons, List.all_cons, Bool.and_eq_true] at h
      have := ih h.2 (by simpa using hk) (fun x hx => hn x (by simpa using hx))
      simp only [List.takeWhile_cons, List.dropWhile_cons, h.1, if_true, List.take_succ_cons, List.drop_succ_cons]
      exact ⟨by rw [this.1], this.2⟩
theorem digits_more {l : Bs} {k : Nat} (h : (l.take k).all hexB = true) (hk : k ≤ l.length) : k ≤ (l.takeWhile hexB).length := by
  induction k generalizing l with
  | zero => omega
  | succ k ih =>
    cases l with
    | nil => simp at hk
    | cons c l =>
      rw [List.take_succ_cons, List.all_cons, Bool.and_eq_true] at h
      have := ih h.2 (by simpa using hk)
      simp only [List.takeWhile_cons, h.1, if_true, List.length_cons]
      omega
def LenPost (r : Option Nat) (w : World) (e : Ending) (w' : World) : Prop := (match r with
  | some n => e = .returned (.int .i64 n)
  | none => e = FaultC 94) ∧ Below w.heap.size w w'
theorem lenPost_none {r : Option Nat} {w w' : World} {e : Ending} (h : r = none) (he : e = FaultC 94) (hb : Below w.heap.size w w') : LenPost r w e w' := by subst h; exact ⟨he, hb⟩
theorem lenPost_some {r : Option Nat} {n : Nat} {w w' : World} {e : Ending} (h : r = some n) (he : e = .returned (.int .i64 n)) (hb : Below w.heap.size w w') : LenPost r w e w' := by subst h; exact ⟨he, hb⟩
def cutV (s : ByteArray) : Value := if s.data.toList.head? = some 59 then .tuple #[.string (s.extract 1 s.size), .bool true] else .tuple #[.string s, .bool false]
theorem cutLite_any (s : ByteArray) (w : World) (hs : s.size ≤ 1000000000) : Calls Tryd.prog 43 #[.string s, .string ⟨#[59]⟩] w fun e w' => e = .returned (cutV s) ∧ w' = w := by
  have cH := Tryd.stringslite_HasPrefix s ⟨#[59]⟩ w
  have hp : Lib.hasPrefix s.data.toList (⟨#[59]⟩ : ByteArray).data.toList = decide (s.data.toList.head? = some 59) := by
    cases s.data.toList with
    | nil => rfl
    | cons c t =>
      by_cases hc : c = 59
      · subst hc; simp [Lib.hasPrefix]
      · have : ¬ (59 : UInt8) = c := fun e => hc e.symm
        simp [Lib.hasPrefix, List.isPrefixOf, hc, this]
  by_cases h : s.data.toList.head? = some 59
  · have h0 : 1 ≤ s.size := by
      cases hl : s.data.toList with
      | nil => rw [hl] at h; cases h
      | cons c t => have := congrArg List.length hl; simp at this; omega
    have HV : Hid (cutV s = .tuple #[.string (s.extract 1 s.size), .bool true]) := Lib.hid (if_pos h)
    rw [hp, decide_eq_true h] at cH
    have hz : (⟨#[59]⟩ : ByteArray).size = 1 := rfl
    clear hp h
    go_enter Tryd.func43, Tryd.ntmps43
    go_wp2_with fail
    refine cH.mono ?_
    rintro e w1 ⟨rfl, hw⟩
    replace hw := hw.symm
    subst hw
    go_wp2
    go_ret2
    exact ⟨by rw [HV.out]; rfl, rfl⟩
  · have HV : Hid (cutV s = .tuple #[.string s, .bool false]) := Lib.hid (if_neg h)
    rw [hp, decide_eq_false h] at cH
    clear hp h
    go_enter Tryd.func43, Tryd.ntmps43
    go_wp2_with fail
    refine cH.mono ?_
    rintro e w1 ⟨rfl, hw⟩
    replace hw := hw.symm
    subst hw
    go_wp2
    go_ret2
    exact ⟨by rw [HV.out]; rfl, rfl⟩
theorem cutP_any (s : ByteArray) (w : World) (hs : s.size ≤ 1000000000) (x : ByteArray) (b : Bool) (hc : cutV s = .tuple #[.string x, .bool b]) : Calls Tryd.prog 33 #[.string s, .string ⟨#[59]⟩] w fun e w' => e = .returned (.tuple #[.string x, .bool b]) ∧ w' = w := by
  have cH := cutLite_any s w hs
  rw [hc] at cH
  go_enter Tryd.func33, Tryd.ntmps33
  go_wp2_with fail
  refine cH.mono ?_
  rintro e w1 ⟨rfl, hw⟩
  replace hw := hw.symm
  subst hw
  go_wp2
  go_ret2
  exact ⟨rfl, rfl⟩
theorem lengthF_of {l : Bs} {k : Nat} (h : (l.take k).all hexB = true) (hk : k ≤ l.length) (hn : ∀ x, l[k]? = some x → hexB x = false) : lengthF l = if k = 0 ∨ 8 < k then none else if extB (l.drop k) then some (valH (l.take k)) else none := by
  obtain ⟨h1, h2⟩ := digits_at h hk hn
  unfold lengthF
  rw [h1, h2, List.length_take, Nat.min_eq_left hk]
theorem lengthF_long {l : Bs} (h : (l.take 9).all hexB = true) (hk : 9 ≤ l.length) : lengthF l = none := by
  have := digits_more h hk
  unfold lengthF
  rw [if_pos (.inr (by omega))]
theorem take_snoc (s : ByteArray) (k : Nat) (h : k < s.size) : s.data.toList.take (k + 1) = s.data.toList.take k ++ [s[k]] := by
  rw [List.take_succ_eq_append_getElem (by simpa using h)]; rfl
theorem ext_yes {X Y : ByteArray} (h : cutV X = .tuple #[.string Y, .bool true]) : extB X.data.toList = Y.data.toList.all textB := by
  unfold cutV at h
  split at h
  · rename_i hh
    injection h with h
    have h2 := congrArg (·[0]?) h
    simp only [List.getElem?_toArray, List.getElem?_cons_zero, Option.some.injEq, Value.string.injEq] at h2
    rw [← h2, Lib.extract_to_end]
    cases hl : X.data.toList with
    | nil => rw [hl] at hh; cases hh
    | cons c t =>
      rw [hl] at hh
      injection hh with hh
      subst hh
      rfl
  · injection h with h
    have h2 := congrArg (·[1]?) h
    simp at h2
theorem cut_size {X Y : ByteArray} {b : Bool} (h : cutV X = .tuple #[.string Y, .bool b]) : Y.size ≤ X.size := by
  unfold cutV at h
  split at h
  all_goals
    injection h with h
    have h2 := congrArg (·[0]?) h
    simp only [List.getElem?_toArray, List.getElem?_cons_zero, Option.some.injEq, Value.string.injEq] at h2
    rw [← h2]
  · rw [ByteArray.size_extract]; omega
  · exact Nat.le_refl _
theorem cut_no {X Y : ByteArray} (h : cutV X = .tuple #[.string Y, .bool false]) : X = Y ∧ X.data.toList.head? ≠ some 59 := by
  unfold cutV at h
  split at h
  · injection h with h
    have h2 := congrArg (·[1]?) h
    simp at h2
  · rename_i hh
    injection h with h
    have h2 := congrArg (·[0]?) h
    simp only [List.getElem?_toArray, List.getElem?_cons_zero, Option.some.injEq, Value.string.injEq] at h2
    exact ⟨h2, hh⟩
theorem ext_no {l : Bs} (h : l ≠ []) (hh : l.head? ≠ some 59) : extB l = false := by
  cases l with
  | nil => exact absurd rfl h
  | cons c t =>
    have : c ≠ 59 := fun e => hh (by rw [e]; rfl)
    simp [extB, this]
set_option maxRecDepth 100000 in
set_option maxHeartbeats 16000000 in
theorem length_any (s : ByteArray) (w : World) (hs : s.size ≤ 1000000000) : Calls Tryd.prog 20 #[.string s] w (LenPost (lengthF s.data.toList) w) := by
  obtain ⟨R, hR⟩ : ∃ R, lengthF s.data.toList = R := ⟨_, rfl⟩
  rw [hR]
  have HR := Lib.hid hR
  have hl : s.data.toList.length = s.size := by simp
  clear hR
  go_enter Tryd.func20, Tryd.ntmps20
  go_wp2
  go_loopw [3, 4] (fun n d wr => ∃ k : Nat, k ≤ s.size ∧ k ≤ 8 ∧ d = .int .i64 k ∧ n = .int .i64 (valH (s.data.toList.take k)) ∧ Hid ((s.data.toList.take k).all hexB = true) ∧ Hid (w = wr)) (fun _ d _ => s.size + 1 - (intOf d).toNat)
  case atStart => exact ⟨0, Nat.zero_le _, by omega, rfl, rfl, Lib.hid rfl, Lib.hid rfl⟩
  case round =>
    obtain ⟨k, hk, hk8, rfl, rfl, HA, HW⟩ := hrel
    by_cases hx : ∃ h : k < s.size, hexB s[k] = true
    · obtain ⟨hlt, hx⟩ := hx
      have hts := take_snoc s k hlt
      have HA2 : Hid ((s.data.toList.take (k + 1)).all hexB = true) := Lib.hid (by rw [hts, List.all_append, HA.out]; simp [hx])
      have hv := hexN_lt s[k]
      have hlim := valH_lt (s.data.toList.take k)
      rw [List.length_take, hl, Nat.min_eq_left hk] at hlim
      have HV : Hid (valH (s.data.toList.take (k + 1)) = 16 * valH (s.data.toList.take k) + hexN s[k]) := Lib.hid (by rw [hts, valH_snoc])
      have cX := fun w => hex_any s[k] w
      unfold HexPost at cX
      rw [hx] at cX
      obtain ⟨y, hy⟩ : ∃ y, s[k] = y := ⟨_, rfl⟩
      obtain ⟨V, hV⟩ : ∃ V, valH (s.data.toList.take k) = V := ⟨_, rfl⟩
      rw [hV] at hlim HV ⊢
      simp only [hy] at cX hv HV
      obtain ⟨v, hv'⟩ : ∃ v, hexN y = v := ⟨_, rfl⟩
      simp only [hv'] at cX hv HV
      have HY := Lib.hid hy
      clear hts hx hV hv' hy
      by_cases h8 : k = 8
      · subst h8
        have HN : Hid (R = none) := Lib.hid (by rw [← HR.out]; exact lengthF_long HA2.out (by omega))
        go_wp2_with fail
        rw [HY.out]
        refine (cX _).mono ?_
        rintro e w1 ⟨rfl, hw⟩
        subst hw
        go_wp2
        exact ⟨rfl, lenPost_none HN.out rfl (by rw [HW.out]; exact Below.refl _ _)⟩
      · have l1 : ¬ ((8 : Int) < (k : Int) + 1) := by omega
        have hV28 : V < 268435456 := by
          have h7 : (16 : Nat) ^ k ≤ 16 ^ 7 := Nat.pow_le_pow_right (by decide) (by omega)
          rw [show (16 : Nat) ^ 7 = 268435456 from by decide] at h7
          omega
        have g1 := wrap_sixteen V hV28
        have g2 := or_digit V v hV28 hv
        clear hlim hV28
        go_wp2_with fail
        rw [HY.out]
        refine (cX _).mono ?_
        rintro e w1 ⟨rfl, hw⟩
        subst hw
        go_wp2
        go_roundw
        case rel => exact ⟨k + 1, by omega, by omega, by go_num, by rw [HV.out]; go_num, HA2, HW⟩
        case measure => simp [intOf]; omega
    · have HF : Hid (R = if k = 0 ∨ 8 < k then none else if extB (s.data.toList.drop k) then some (valH (s.data.toList.take k)) else none) := Lib.hid (by
        rw [← HR.out]
        refine lengthF_of HA.out (by omega) (fun x hx2 => ?_)
        obtain ⟨h1, rfl⟩ := List.getElem?_eq_some_iff.1 hx2
        cases hb : hexB s.data.toList[k] with
        | false => rfl
        | true => exact absurd ⟨by simpa using h1, hb⟩ hx)
      -- GEN
      obtain ⟨X, hX⟩ : ∃ X, s.extract k s.size = X := ⟨_, rfl⟩
      have hXd : X.data.toList = s.data.toList.drop k := by rw [← hX, Lib.extract_to_end]
      have hXz : X.size ≤ 1000000000 := by rw [← hX, ByteArray.size_extract]; omega
      have HX := Lib.hid hX
      rw [← hXd] at HF
      obtain ⟨V, hV⟩ : ∃ V, valH (s.data.toList.take k) = V := ⟨_, rfl⟩
      rw [hV] at HF ⊢
      obtain ⟨Y, ex, hc⟩ : ∃ Y ex, cutV X = .tuple #[.string Y, .bool ex] := by unfold cutV; split; exact ⟨_, _, rfl⟩; exact ⟨_, _, rfl⟩
      have cP := fun w => cutP_any X w hXz Y ex hc
      clear hX hV
      by_cases hk0 : k = 0
      · have HE : Hid (R = none) := Lib.hid (by rw [HF.out, if_pos (.inl hk0)])
        have hk0i : ((k : Int) == 0) = true := by rw [hk0]; rfl
        clear hc hXd hk0
        by_cases hlt : k < s.size
        · have hxf : hexB s[k] = false := by cases hb : hexB s[k] with | false => rfl | true => exact absurd ⟨hlt, hb⟩ hx
          have cX := fun w => hex_any s[k] w
          unfold HexPost at cX
          rw [hxf] at cX
          obtain ⟨y, hy⟩ : ∃ y, s[k] = y := ⟨_, rfl⟩
          simp only [hy] at cX
          have HY := Lib.hid hy
          obtain ⟨v, hv⟩ : ∃ v, hexN y = v := ⟨_, rfl⟩
          simp only [hv] at cX
          clear hxf hy hv hx
          go_wp2_with fail
          rw [HY.out]
          refine (cX _).mono ?_
          rintro e w1 ⟨rfl, hw⟩
          subst hw
          go_wp2_with fail
          rw [HX.out]
          refine (cP _).mono ?_
          rintro e w1 ⟨rfl, hw⟩
          replace hw := hw.symm
          subst hw
          go_wp2
          exact ⟨rfl, lenPost_none HE.out rfl (by rw [HW.out]; exact Below.refl _ _)⟩
        · have hkk : ¬ ((k : Int) < (s.size : Int)) := by omega
          clear hx hlt
          go_wp2_with fail
          rw [HX.out]
          refine (cP _).mono ?_
          rintro e w1 ⟨rfl, hw⟩
          replace hw := hw.symm
          subst hw
          go_wp2
          exact ⟨rfl, lenPost_none HE.out rfl (by rw [HW.out]; exact Below.refl _ _)⟩
      · have hk0i : ((k : Int) == 0) = false := by simpa using hk0
        have HF2 : Hid (R = if extB X.data.toList then some V else none) := Lib.hid (by rw [HF.out, if_neg (by omega)])
        clear HF hk0
        cases ex with
        | true =>
          have hext : extB X.data.toList = Y.data.toList.all textB := ext_yes hc
          have hYz : Y.size ≤ 1000000000 := Nat.le_trans (cut_size hc) hXz
          clear hc hXd hXz
          have cT := fun w => trim_any Y w (by omega)
          obtain ⟨T, hT⟩ : ∃ T : ByteArray, (⟨(trimF Y.data.toList).toArray⟩ : ByteArray) = T := ⟨_, rfl⟩
          have hTz : T.size ≤ 1000000000 := by rw [← hT]; show (trimF Y.data.toList).toArray.size ≤ _; have := trimF_len Y.data.toList; simp at this ⊢; omega
          have HTV := Lib.hid hT
          have cV := fun w => value_any T w (by omega)
          have hval : valueF T.data.toList = Y.data.toList.all textB := by rw [← hT]; exact value_trim _
          rw [hval] at cV
          clear hT hval
          cases hall : Y.data.toList.all textB with
          | true =>
            rw [hall] at cV
            have HE : Hid (R = some V) := Lib.hid (by rw [HF2.out, hext, hall]; rfl)
            clear hall hext HF2
            by_cases hlt : k < s.size
            · have hxf : hexB s[k] = false := by cases hb : hexB s[k] with | false => rfl | true => exact absurd ⟨hlt, hb⟩ hx
              have cX := fun w => hex_any s[k] w
              unfold HexPost at cX
              rw [hxf] at cX
              obtain ⟨y, hy⟩ : ∃ y, s[k] = y := ⟨_, rfl⟩
              simp only [hy] at cX
              have HY := Lib.hid hy
              obtain ⟨v, hv⟩ : ∃ v, hexN y = v := ⟨_, rfl⟩
              simp only [hv] at cX
              clear hxf hy hv hx
              go_wp2_with fail
              rw [HY.out]
              refine (cX _).mono ?_
              rintro e w1 ⟨rfl, hw⟩
              subst hw
              go_wp2_with fail
              rw [HX.out]
              refine (cP _).mono ?_
              rintro e w1 ⟨rfl, hw⟩
              replace hw := hw.symm
              subst hw
              go_wp2_with fail
              refine (cT _).mono ?_
              rintro e w2 ⟨rfl, hb2⟩
              rw [HTV.out]
              go_wp2_with fail
              refine (cV _).mono ?_
              rintro e w3 ⟨rfl, hb3⟩
              have HB := Lib.hid (hb2.trans (hb3.mono hb2.size))
              clear hb2 hb3 cT cV
              go_wp2
              go_ret
              exact lenPost_some HE.out rfl (by rw [HW.out]; exact HB.out)
            · have hkk : ¬ ((k : Int) < (s.size : Int)) := by omega
              clear hx hlt
              go_wp2_with fail
              rw [HX.out]
              refine (cP _).mono ?_
              rintro e w1 ⟨rfl, hw⟩
              replace hw := hw.symm
              subst hw
              go_wp2_with fail
              refine (cT _).mono ?_
              rintro e w2 ⟨rfl, hb2⟩
              rw [HTV.out]
              go_wp2_with fail
              refine (cV _).mono ?_
              rintro e w3 ⟨rfl, hb3⟩
              have HB := Lib.hid (hb2.trans (hb3.mono hb2.size))
              clear hb2 hb3 cT cV
              go_wp2
              go_ret
              exact lenPost_some HE.out rfl (by rw [HW.out]; exact HB.out)
          | false =>
            rw [hall] at cV
            have HE : Hid (R = none) := Lib.hid (by rw [HF2.out, hext, hall]; rfl)
            clear hall hext HF2
            by_cases hlt : k < s.size
            · have hxf : hexB s[k] = false := by cases hb : hexB s[k] with | false => rfl | true => exact absurd ⟨hlt, hb⟩ hx
              have cX := fun w => hex_any s[k] w
              unfold HexPost at cX
              rw [hxf] at cX
              obtain ⟨y, hy⟩ : ∃ y, s[k] = y := ⟨_, rfl⟩
              simp only [hy] at cX
              have HY := Lib.hid hy
              obtain ⟨v, hv⟩ : ∃ v, hexN y = v := ⟨_, rfl⟩
              simp only [hv] at cX
              clear hxf hy hv hx
              go_wp2_with fail
              rw [HY.out]
              refine (cX _).mono ?_
              rintro e w1 ⟨rfl, hw⟩
              subst hw
              go_wp2_with fail
              rw [HX.out]
              refine (cP _).mono ?_
              rintro e w1 ⟨rfl, hw⟩
              replace hw := hw.symm
              subst hw
              go_wp2_with fail
              refine (cT _).mono ?_
              rintro e w2 ⟨rfl, hb2⟩
              rw [HTV.out]
              go_wp2_with fail
              refine (cV _).mono ?_
              rintro e w3 ⟨rfl, hb3⟩
              have HB := Lib.hid (hb2.trans (hb3.mono hb2.size))
              clear hb2 hb3 cT cV
              go_wp2
              exact ⟨rfl, lenPost_none HE.out rfl (by rw [HW.out]; exact HB.out)⟩
            · have hkk : ¬ ((k : Int) < (s.size : Int)) := by omega
              clear hx hlt
              go_wp2_with fail
              rw [HX.out]
              refine (cP _).mono ?_
              rintro e w1 ⟨rfl, hw⟩
              replace hw := hw.symm
              subst hw
              go_wp2_with fail
              refine (cT _).mono ?_
              rintro e w2 ⟨rfl, hb2⟩
              rw [HTV.out]
              go_wp2_with fail
              refine (cV _).mono ?_
              rintro e w3 ⟨rfl, hb3⟩
              have HB := Lib.hid (hb2.trans (hb3.mono hb2.size))
              clear hb2 hb3 cT cV
              go_wp2
              exact ⟨rfl, lenPost_none HE.out rfl (by rw [HW.out]; exact HB.out)⟩
        | false =>
          obtain ⟨hYX, hh⟩ := cut_no hc
          replace hYX := hYX.symm
          subst hYX
          by_cases hY : Y.data.toList = []
          · have hext : extB Y.data.toList = Y.data.toList.all textB := by rw [hY]; rfl
            have hYz := hXz
            have qy : (Y.toList != []) = false := by rw [Lib.toList_data, hY]; rfl
            have qy2 : (!(Y.toList.isEmpty)) = false := by rw [Lib.toList_data, hY]; rfl
            clear hc hXd hXz hh hY
            have cT := fun w => trim_any Y w (by omega)
            obtain ⟨T, hT⟩ : ∃ T : ByteArray, (⟨(trimF Y.data.toList).toArray⟩ : ByteArray) = T := ⟨_, rfl⟩
            have hTz : T.size ≤ 1000000000 := by rw [← hT]; show (trimF Y.data.toList).toArray.size ≤ _; have := trimF_len Y.data.toList; simp at this ⊢; omega
            have HTV := Lib.hid hT
            have cV := fun w => value_any T w (by omega)
            have hval : valueF T.data.toList = Y.data.toList.all textB := by rw [← hT]; exact value_trim _
            rw [hval] at cV
            clear hT hval
            cases hall : Y.data.toList.all textB with
            | true =>
              rw [hall] at cV
              have HE : Hid (R = some V) := Lib.hid (by rw [HF2.out, hext, hall]; rfl)
              clear hall hext HF2
              by_cases hlt : k < s.size
              · have hxf : hexB s[k] = false := by cases hb : hexB s[k] with | false => rfl | true => exact absurd ⟨hlt, hb⟩ hx
                have cX := fun w => hex_any s[k] w
                unfold HexPost at cX
                rw [hxf] at cX
                obtain ⟨y, hy⟩ : ∃ y, s[k] = y := ⟨_, rfl⟩
                simp only [hy] at cX
                have HY := Lib.hid hy
                obtain ⟨v, hv⟩ : ∃ v, hexN y = v := ⟨_, rfl⟩
                simp only [hv] at cX
                clear hxf hy hv hx
                go_wp2_with fail
                rw [HY.out]
                refine (cX _).mono ?_
                rintro e w1 ⟨rfl, hw⟩
                subst hw
                go_wp2_with fail
                rw [HX.out]
                refine (cP _).mono ?_
                rintro e w1 ⟨rfl, hw⟩
                replace hw := hw.symm
                subst hw
                go_wp2_with fail
                refine (cT _).mono ?_
                rintro e w2 ⟨rfl, hb2⟩
                rw [HTV.out]
                go_wp2_with fail
                refine (cV _).mono ?_
                rintro e w3 ⟨rfl, hb3⟩
                have HB := Lib.hid (hb2.trans (hb3.mono hb2.size))
                clear hb2 hb3 cT cV
                go_wp2
                go_ret
                exact lenPost_some HE.out rfl (by rw [HW.out]; exact HB.out)
              · have hkk : ¬ ((k : Int) < (s.size : Int)) := by omega
                clear hx hlt
                go_wp2_with fail
                rw [HX.out]
                refine (cP _).mono ?_
                rintro e w1 ⟨rfl, hw⟩
                replace hw := hw.symm
                subst hw
                go_wp2_with fail
                refine (cT _).mono ?_
                rintro e w2 ⟨rfl, hb2⟩
                rw [HTV.out]
                go_wp2_with fail
                refine (cV _).mono ?_
                rintro e w3 ⟨rfl, hb3⟩
                have HB := Lib.hid (hb2.trans (hb3.mono hb2.size))
                clear hb2 hb3 cT cV
                go_wp2
                go_ret
                exact lenPost_some HE.out rfl (by rw [HW.out]; exact HB.out)
            | false =>
              rw [hall] at cV
              have HE : Hid (R = none) := Lib.hid (by rw [HF2.out, hext, hall]; rfl)
              clear hall hext HF2
              by_cases hlt : k < s.size
              · have hxf : hexB s[k] = false := by cases hb : hexB s[k] with | false => rfl | true => exact absurd ⟨hlt, hb⟩ hx
                have cX := fun w => hex_any s[k] w
                unfold HexPost at cX
                rw [hxf] at cX
                obtain ⟨y, hy⟩ : ∃ y, s[k] = y := ⟨_, rfl⟩
                simp only [hy] at cX
                have HY := Lib.hid hy
                obtain ⟨v, hv⟩ : ∃ v, hexN y = v := ⟨_, rfl⟩
                simp only [hv] at cX
                clear hxf hy hv hx
                go_wp2_with fail
                rw [HY.out]
                refine (cX _).mono ?_
                rintro e w1 ⟨rfl, hw⟩
                subst hw
                go_wp2_with fail
                rw [HX.out]
                refine (cP _).mono ?_
                rintro e w1 ⟨rfl, hw⟩
                replace hw := hw.symm
                subst hw
                go_wp2_with fail
                refine (cT _).mono ?_
                rintro e w2 ⟨rfl, hb2⟩
                rw [HTV.out]
                go_wp2_with fail
                refine (cV _).mono ?_
                rintro e w3 ⟨rfl, hb3⟩
                have HB := Lib.hid (hb2.trans (hb3.mono hb2.size))
                clear hb2 hb3 cT cV
                go_wp2
                exact ⟨rfl, lenPost_none HE.out rfl (by rw [HW.out]; exact HB.out)⟩
              · have hkk : ¬ ((k : Int) < (s.size : Int)) := by omega
                clear hx hlt
                go_wp2_with fail
                rw [HX.out]
                refine (cP _).mono ?_
                rintro e w1 ⟨rfl, hw⟩
                replace hw := hw.symm
                subst hw
                go_wp2_with fail
                refine (cT _).mono ?_
                rintro e w2 ⟨rfl, hb2⟩
                rw [HTV.out]
                go_wp2_with fail
                refine (cV _).mono ?_
                rintro e w3 ⟨rfl, hb3⟩
                have HB := Lib.hid (hb2.trans (hb3.mono hb2.size))
                clear hb2 hb3 cT cV
                go_wp2
                exact ⟨rfl, lenPost_none HE.out rfl (by rw [HW.out]; exact HB.out)⟩
          · have HE : Hid (R = none) := Lib.hid (by rw [HF2.out, ext_no hY hh]; rfl)
            have qy : (Y.toList != []) = true := by rw [Lib.toList_data]; simpa using hY
            have qy2 : (!(Y.toList.isEmpty)) = true := by rw [Lib.toList_data]; simpa using hY
            clear hc hXd hXz hh hY HF2
            by_cases hlt : k < s.size
            · have hxf : hexB s[k] = false := by cases hb : hexB s[k] with | false => rfl | true => exact absurd ⟨hlt, hb⟩ hx
              have cX := fun w => hex_any s[k] w
              unfold HexPost at cX
              rw [hxf] at cX
              obtain ⟨y, hy⟩ : ∃ y, s[k] = y := ⟨_, rfl⟩
              simp only [hy] at cX
              have HY := Lib.hid hy
              obtain ⟨v, hv⟩ : ∃ v, hexN y = v := ⟨_, rfl⟩
              simp only [hv] at cX
              clear hxf hy hv hx
              go_wp2_with fail
              rw [HY.out]
              refine (cX _).mono ?_
              rintro e w1 ⟨rfl, hw⟩
              subst hw
              go_wp2_with fail
              rw [HX.out]
              refine (cP _).mono ?_
              rintro e w1 ⟨rfl, hw⟩
              replace hw := hw.symm
              subst hw
              go_wp2
              exact ⟨rfl, lenPost_none HE.out rfl (by rw [HW.out]; exact Below.refl _ _)⟩
            · have hkk : ¬ ((k : Int) < (s.size : Int)) := by omega
              clear hx hlt
              go_wp2_with fail
              rw [HX.out]
              refine (cP _).mono ?_
              rintro e w1 ⟨rfl, hw⟩
              replace hw := hw.symm
              subst hw
              go_wp2
              exact ⟨rfl, lenPost_none HE.out rfl (by rw [HW.out]; exact Below.refl _ _)⟩
end Go.Proofs.YtkfnebpooohflaaDoor
