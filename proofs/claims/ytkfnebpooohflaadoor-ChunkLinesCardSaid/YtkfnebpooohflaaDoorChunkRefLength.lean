/-
  The reference's length of a chunk.
-/
import Derived.Test.YtkfnebpooohflaaDoorChunkLength
import Derived.Test.YtkfnebpooohflaaDoorHeadRefStrs
namespace Go.Proofs.YtkfnebpooohflaaDoor
open Go.RowKit HeadMath NormMath NormS HeadS ChunkMath

def hexR (o : Option Nat) : Int := match o with | some v => (v : Int) | none => -1
theorem ret_i64 {a b : Int} (h : a = b) : Ending.returned (.int .i64 a) = .returned (.int .i64 b) := by rw [h]
set_option maxHeartbeats 1000000 in
theorem refHexC_any (c : UInt8) (w : World) : Calls Tryd.prog 38 #[.int .u8 c.toNat] w fun e w' => e = .returned (.int .i64 (hexR (hexV c))) ∧ w = w' := by
  have hc := HeadS.u8_lt c
  by_cases h1 : 48 ≤ c.toNat ∧ c.toNat ≤ 57
  · have HV := Lib.hid (hex_digit h1)
    go_enter Tryd.func38, Tryd.ntmps38
    go_wp2
    go_ret
    exact ⟨ret_i64 (by rw [HV.out]; unfold hexR; first | omega | (dsimp only; omega)), rfl⟩
  · by_cases h2 : 97 ≤ c.toNat ∧ c.toNat ≤ 102
    · have HV := Lib.hid (hex_small h2)
      go_enter Tryd.func38, Tryd.ntmps38
      go_wp2
      go_ret
      exact ⟨ret_i64 (by rw [HV.out]; unfold hexR; first | omega | (dsimp only; omega)), rfl⟩
    · by_cases h3 : 65 ≤ c.toNat ∧ c.toNat ≤ 70
      · have HV := Lib.hid (hex_great h3)
        have d2 : (decide ((97 : Int) ≤ c.toNat) && decide ((c.toNat : Int) ≤ 102)) = false := by
          rw [Bool.and_eq_false_iff]; left; exact decide_eq_false (by omega)
        have g1 : ¬ ((97 : Int) ≤ c.toNat) := by omega
        go_enter Tryd.func38, Tryd.ntmps38
        by_cases g2 : (c.toNat : Int) ≤ 57
        · omega
        · go_wp2
          go_ret
          exact ⟨ret_i64 (by rw [HV.out]; unfold hexR; first | omega | (dsimp only; omega)), rfl⟩
      · have HV := Lib.hid (hex_none h1 h2 h3)
        go_enter Tryd.func38, Tryd.ntmps38
        by_cases g1 : (48 : Int) ≤ c.toNat
        · have g2 : ¬ ((c.toNat : Int) ≤ 57) := by omega
          by_cases g3 : (65 : Int) ≤ c.toNat
          · have g4 : ¬ ((c.toNat : Int) ≤ 70) := by omega
            by_cases g5 : (97 : Int) ≤ c.toNat
            · have g6 : ¬ ((c.toNat : Int) ≤ 102) := by omega
              go_wp2
              go_ret
              exact ⟨ret_i64 (by rw [HV.out]; rfl), rfl⟩
            · go_wp2
              go_ret
              exact ⟨ret_i64 (by rw [HV.out]; rfl), rfl⟩
          · have g5 : ¬ ((97 : Int) ≤ c.toNat) := by omega
            go_wp2
            go_ret
            exact ⟨ret_i64 (by rw [HV.out]; rfl), rfl⟩
        · have g3 : ¬ ((65 : Int) ≤ c.toNat) := by omega
          have g5 : ¬ ((97 : Int) ≤ c.toNat) := by omega
          go_wp2
          go_ret
          exact ⟨ret_i64 (by rw [HV.out]; rfl), rfl⟩
def lenV (r : Option Nat) : Value := match r with | some n => .tuple #[.int .i64 n, .bool true] | none => .tuple #[.int .i64 0, .bool false]
def RefLen (r : Option Nat) (w : World) (e : Ending) (w' : World) : Prop := e = .returned (lenV r) ∧ w = w'
theorem refLen_none {r : Option Nat} {w : World} {e : Ending} (h : r = none) (he : e = .returned (.tuple #[.int .i64 0, .bool false])) : RefLen r w e w := by subst h; exact ⟨he, rfl⟩
theorem refLen_some {r : Option Nat} {n : Nat} {w : World} {e : Ending} (h : r = some n) (he : e = .returned (.tuple #[.int .i64 n, .bool true])) : RefLen r w e w := by subst h; exact ⟨he, rfl⟩
theorem lengthF_sign {l : Bs} {k : Nat} (h : (l.take k).all hexB = true) {x : UInt8} (hx : l[k]? = some x) (h59 : x ≠ 59) (hb : k = 8 ∨ hexB x = false) : lengthF l = none := by
  obtain ⟨hk, _⟩ := List.getElem?_eq_some_iff.1 hx
  cases hxb : hexB x with
  | false =>
    rw [lengthF_of h (by omega) (fun z hz => by rw [hx] at hz; injection hz with hz; subst hz; exact hxb)]
    split
    · rfl
    · rw [List.drop_eq_getElem?_toList_append]
      rw [hx]
      simp [extB, h59]
  | true =>
    have h8 : k = 8 := by rcases hb with h | h; exact h; rw [hxb] at h; cases h
    subst h8
    refine lengthF_long ?_ (by omega)
    rw [List.take_succ_eq_append_getElem (by omega), List.all_append, h]
    have : l[8] = x := by have := List.getElem?_eq_getElem hk; rw [hx] at this; exact (Option.some.inj this).symm
    simp [this, hxb]
theorem lengthF_text {l X : Bs} {k : Nat} (h : (l.take k).all hexB = true) (hX : l.drop k = 59 :: X) (h0 : 0 < k) (h8 : k ≤ 8) : lengthF l = if (59 :: X).all textB = true then some (valH (l.take k)) else none := by
  have hk : k < l.length := by
    rcases Nat.lt_or_ge k l.length with h | h
    · exact h
    · rw [List.drop_of_length_le h] at hX; cases hX
  rw [lengthF_of h (by omega) (fun z hz => by
    have e : (l.drop k)[0]? = some z := by rw [List.getElem?_drop]; exact hz
    rw [hX] at e
    injection e with e
    subst e
    decide), if_neg (by omega), hX]
  rfl
set_option maxRecDepth 100000 in
set_option maxHeartbeats 16000000 in
theorem refLength_any (s : ByteArray) (w : World) (hs : s.size ≤ 1000000000) : Calls Tryd.prog 29 #[.string s] w (RefLen (lengthF s.data.toList) w) := by
  obtain ⟨R, hR⟩ : ∃ R, lengthF s.data.toList = R := ⟨_, rfl⟩
  rw [hR]
  have HR := Lib.hid hR
  have hl : s.data.toList.length = s.size := by simp
  clear hR
  go_enter Tryd.func29, Tryd.ntmps29
  go_wp2
  go_loop [4, 5] (fun n d => ∃ k : Nat, k ≤ s.size ∧ k ≤ 8 ∧ d = .int .i64 k ∧ n = .int .i64 (valH (s.data.toList.take k)) ∧ Hid ((s.data.toList.take k).all hexB = true)) (fun _ d => s.size + 1 - (intOf d).toNat)
  case atStart => exact ⟨0, Nat.zero_le _, by omega, rfl, rfl, Lib.hid rfl⟩
  case round =>
    obtain ⟨k, hk, hk8, rfl, rfl, HA⟩ := hrel
    have hlim := valH_lt (s.data.toList.take k)
    rw [List.length_take, hl, Nat.min_eq_left hk] at hlim
    have hV32 : valH (s.data.toList.take k) < 4294967296 := by
      have h7 : (16 : Nat) ^ k ≤ 16 ^ 8 := Nat.pow_le_pow_right (by decide) hk8
      rw [show (16 : Nat) ^ 8 = 4294967296 from by decide] at h7
      omega
    obtain ⟨V, hV⟩ : ∃ V, valH (s.data.toList.take k) = V := ⟨_, rfl⟩
    have HVV := Lib.hid hV
    rw [hV] at hV32 ⊢
    clear hlim hV
    obtain ⟨X, hX⟩ : ∃ X, s.extract k s.size = X := ⟨_, rfl⟩
    have hXd : X.data.toList = s.data.toList.drop k := by rw [← hX, Lib.extract_to_end]
    have hXz : X.size ≤ 1000000000 := by rw [← hX, ByteArray.size_extract]; omega
    have cT := fun w => refText_any X w (by omega)
    by_cases hlt : k < s.size
    · have hg : s.data.toList[k]? = some s[k] := by rw [List.getElem?_eq_getElem (by omega)]; rfl
      have hdr : s.data.toList.drop k = s[k] :: s.data.toList.drop (k + 1) := by rw [List.drop_eq_getElem_cons (by omega)]; rfl
      by_cases h8 : k < 8
      · have cX := fun w => refHexC_any s[k] w
        cases hv : hexV s[k] with
        | some v =>
          rw [hv] at cX
          have hvb : v < 16 := by have := hexN_lt s[k]; unfold hexN at this; rw [hv] at this; exact this
          have hb : hexB s[k] = true := by unfold hexB; rw [hv]; rfl
          have hts := take_snoc s k hlt
          have HA2 : Hid ((s.data.toList.take (k + 1)).all hexB = true) := Lib.hid (by rw [hts, List.all_append, HA.out]; simp [hb])
          have HV2 : Hid (valH (s.data.toList.take (k + 1)) = 16 * V + v) := Lib.hid (by rw [hts, valH_snoc, HVV.out]; unfold hexN; rw [hv]; rfl)
          unfold hexR at cX
          have v0 : (0 : Int) ≤ (v : Int) := by omega
          have v1 : (v : Int) < 16 := by omega
          clear hv hb hts hg hdr hX hXd hXz cT
          go_wp2_with fail
          refine (cX _).mono ?_
          rintro e w1 ⟨rfl, hw⟩
          subst hw
          go_wp2_with fail
          refine (cX _).mono ?_
          rintro e w1 ⟨rfl, hw⟩
          subst hw
          go_wp2
          go_round
          case rel => exact ⟨k + 1, by omega, by omega, by go_num, by rw [HV2.out]; go_num, HA2⟩
          case measure => simp [intOf]; omega
        | none =>
          rw [hv] at cX
          have hb : hexB s[k] = false := by unfold hexB; rw [hv]; rfl
          unfold hexR at cX
          by_cases h0 : k = 0
          · have HE : Hid (R = none) := Lib.hid (by rw [← HR.out, lengthF_of HA.out (by omega) (fun z hz => by rw [hg] at hz; injection hz with hz; rw [← hz]; exact hb), if_pos (.inl h0)])
            have k0 : ((k : Int) == 0) = true := by rw [h0]; rfl
            clear hv hb hg hdr hX hXd hXz cT h0
            go_wp2_with fail
            refine (cX _).mono ?_
            rintro e w1 ⟨rfl, hw⟩
            subst hw
            go_wp2
            go_ret2
            exact refLen_none HE.out rfl
          · have k0 : ((k : Int) == 0) = false := by simpa using h0
            by_cases h59 : s[k] = 59
            · have q59 : ((s[k].toNat : Int) != 59) = false := by rw [h59]; rfl
              have hE := lengthF_text HA.out (by rw [hdr, h59]) (by omega) hk8
              rw [← h59, ← hdr, ← hXd, HVV.out] at hE
              have HE : Hid (R = if textF X = true then some V else none) := Lib.hid (by rw [← HR.out]; exact hE)
              clear hv hb hg hdr hXd hXz hE h59
              go_wp2_with fail
              refine (cX _).mono ?_
              rintro e w1 ⟨rfl, hw⟩
              subst hw
              cases ht : textF X with
              | true =>
                simp only [ht] at cT
                rw [ht, if_pos rfl] at HE
                go_wp2_with fail
                refine (cT _).mono ?_
                rintro e w1 ⟨rfl, hw⟩
                subst hw
                go_wp2
                go_ret2
                exact refLen_some HE.out rfl
              | false =>
                simp only [ht] at cT
                rw [ht, if_neg (by decide)] at HE
                go_wp2_with fail
                refine (cT _).mono ?_
                rintro e w1 ⟨rfl, hw⟩
                subst hw
                go_wp2
                go_ret2
                exact refLen_none HE.out rfl
            · have q59 : ((s[k].toNat : Int) != 59) = true := by
                have : ((s[k].toNat : Int) == 59) = false := (u8_beq_lit s[k] 59 (by omega)).trans (by simpa using h59)
                unfold bne; rw [this]; rfl
              have HE : Hid (R = none) := Lib.hid (by rw [← HR.out]; exact lengthF_sign HA.out hg h59 (.inr hb))
              clear hv hb hg hdr hX hXd hXz cT h59
              go_wp2_with fail
              refine (cX _).mono ?_
              rintro e w1 ⟨rfl, hw⟩
              subst hw
              go_wp2
              go_ret2
              exact refLen_none HE.out rfl
      · obtain rfl : k = 8 := by omega
        by_cases h59 : s[8] = 59
        · have q59 : ((s[8].toNat : Int) != 59) = false := by rw [h59]; rfl
          have hE := lengthF_text HA.out (by rw [hdr, h59]) (by omega) hk8
          rw [← h59, ← hdr, ← hXd, HVV.out] at hE
          have HE : Hid (R = if textF X = true then some V else none) := Lib.hid (by rw [← HR.out]; exact hE)
          clear hg hdr hXd hXz hE h59
          cases ht : textF X with
          | true =>
            simp only [ht] at cT
            rw [ht, if_pos rfl] at HE
            go_wp2_with fail
            refine (cT _).mono ?_
            rintro e w1 ⟨rfl, hw⟩
            subst hw
            go_wp2
            go_ret2
            exact refLen_some HE.out rfl
          | false =>
            simp only [ht] at cT
            rw [ht, if_neg (by decide)] at HE
            go_wp2_with fail
            refine (cT _).mono ?_
            rintro e w1 ⟨rfl, hw⟩
            subst hw
            go_wp2
            go_ret2
            exact refLen_none HE.out rfl
        · have q59 : ((s[8].toNat : Int) != 59) = true := by
            have : ((s[8].toNat : Int) == 59) = false := (u8_beq_lit s[8] 59 (by omega)).trans (by simpa using h59)
            unfold bne; rw [this]; rfl
          have HE : Hid (R = none) := Lib.hid (by rw [← HR.out]; exact lengthF_sign HA.out hg h59 (.inl rfl))
          clear hg hdr hX hXd hXz cT h59
          go_wp2
          go_ret2
          exact refLen_none HE.out rfl
    · have hks : k = s.size := by omega
      have hXe : textF X = true := by unfold textF; rw [hXd, List.drop_of_length_le (by omega)]; rfl
      have hE := lengthF_of HA.out (by omega) (fun z hz => by rw [List.getElem?_eq_none (by omega)] at hz; cases hz)
      rw [List.drop_of_length_le (by omega), HVV.out] at hE
      by_cases h0 : k = 0
      · have HE : Hid (R = none) := Lib.hid (by rw [← HR.out, hE, if_pos (.inl h0)])
        have k0 : ((k : Int) == 0) = true := by rw [h0]; rfl
        have i1 : ¬ ((k : Int) < (s.size : Int)) := by omega
        clear hX hXd hXz cT h0 hE hks hlt
        go_wp2
        go_ret2
        exact refLen_none HE.out rfl
      · have k0 : ((k : Int) == 0) = false := by simpa using h0
        have HE : Hid (R = some V) := Lib.hid (by rw [← HR.out, hE, if_neg (by omega)]; rfl)
        simp only [hXe] at cT
        have i1 : ¬ ((k : Int) < (s.size : Int)) := by omega
        clear hXd hXz hE hks hlt
        go_wp2_with fail
        refine (cT _).mono ?_
        rintro e w1 ⟨rfl, hw⟩
        subst hw
        go_wp2
        go_ret2
        exact refLen_some HE.out rfl
end Go.Proofs.YtkfnebpooohflaaDoor
