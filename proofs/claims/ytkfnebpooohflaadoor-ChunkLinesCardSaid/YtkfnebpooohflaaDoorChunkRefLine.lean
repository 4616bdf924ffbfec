/-
  The reference's line: it refuses a long one a byte later, which a text that ends in LF does not show.
-/
import Derived.Test.YtkfnebpooohflaaDoorChunkLine
import Derived.Test.YtkfnebpooohflaaDoorChunkBytesP
namespace Go.Proofs.YtkfnebpooohflaaDoor
open Go.RowKit HeadMath NormMath NormS ChunkMath

def lineQ : Bs → Bs → Except Nat (Bs × Bs)
  | _, [] => .error 92
  | acc, c :: r => if 1024 < acc.length ∨ c = 10 then .error 94 else if c = 13 then crF acc r else lineQ (acc ++ [c]) r
theorem lineQ_bad {acc r : Bs} {c : UInt8} (h : 1024 < acc.length ∨ c = 10) : lineQ acc (c :: r) = .error 94 := by rw [lineQ, if_pos h]
theorem lineQ_cr {acc r : Bs} (h : ¬ 1024 < acc.length) : lineQ acc (13 :: r) = crF acc r := by
  rw [lineQ, if_neg (by rintro (e | e); exact h e; exact absurd e (by decide)), if_pos rfl]
theorem lineQ_on {acc r : Bs} {c : UInt8} (h : ¬ 1024 < acc.length) (h10 : c ≠ 10) (h13 : c ≠ 13) : lineQ acc (c :: r) = lineQ (acc ++ [c]) r := by
  rw [lineQ, if_neg (by rintro (e | e); exact h e; exact h10 e), if_neg h13]
def EndsLF (s : Bs) : Prop := ∀ c, s.getLast? = some c → c = 10
theorem EndsLF.tail {c : UInt8} {r : Bs} (h : EndsLF (c :: r)) (hc : c ≠ 10) : ∃ d t, r = d :: t ∧ EndsLF (d :: t) := by
  cases r with
  | nil => exact absurd (h c rfl) hc
  | cons d r => exact ⟨d, r, rfl, fun x hx => h x (by rw [List.getLast?_cons_cons]; exact hx)⟩
theorem lineQ_eq : ∀ (s acc : Bs), EndsLF s → acc.length ≤ 1024 → lineQ acc s = lineG acc s
  | [], acc, _, _ => by rw [lineQ, lineG]
  | c :: r, acc, h, hl => by
    by_cases h13 : c = 13
    · subst h13
      rw [lineG, if_pos rfl, lineQ_cr (by omega)]
    · by_cases h10 : c = 10
      · subst h10
        rw [lineG_lf, lineQ_bad (.inr rfl)]
      · obtain ⟨d, t, rfl, hr⟩ := h.tail h10
        rw [lineQ_on (by omega) h10 h13]
        by_cases h24 : acc.length < 1024
        · rw [lineG_plain ⟨h13, h10⟩ h24]
          exact lineQ_eq (d :: t) _ hr (by simp; omega)
        · rw [lineG_long h13 (by omega), lineQ_bad (.inl (by simp; omega))]
theorem endsLF_drop {b : Bs} (h : EndsLF b) (k : Nat) : EndsLF (b.drop k) := by
  intro c hc
  rw [List.getLast?_drop] at hc
  split at hc
  · cases hc
  · exact h c hc
def RefLine (b : Bs) (r : Except Nat (Bs × Bs)) (w : World) (e : Ending) (w' : World) : Prop := (match r with
  | .error n => e = .returned (.tuple #[.string ⟨#[]⟩, .int .i64 0, .int .i64 n])
  | .ok (t, s) => e = .returned (.tuple #[.string ⟨t.toArray⟩, .int .i64 ((b.length - s.length : Nat) : Int), .int .i64 0])) ∧ w = w'
theorem refLine_error {b : Bs} {r : Except Nat (Bs × Bs)} {w : World} {e : Ending} {n : Nat} (h : r = .error n) (he : e = .returned (.tuple #[.string ⟨#[]⟩, .int .i64 0, .int .i64 n])) : RefLine b r w e w := by subst h; exact ⟨he, rfl⟩
theorem refLine_ok {b t s : Bs} {r : Except Nat (Bs × Bs)} {w : World} {e : Ending} (h : r = .ok (t, s)) (he : e = .returned (.tuple #[.string ⟨t.toArray⟩, .int .i64 ((b.length - s.length : Nat) : Int), .int .i64 0])) : RefLine b r w e w := by subst h; exact ⟨he, rfl⟩
set_option maxRecDepth 100000 in
set_option maxHeartbeats 8000000 in
theorem refLine_any (a : Option Addr) (c : Nat) (b : Bs) (k : Nat) (w : World) (hb : BytesAt w a b) (hc : b.length ≤ c) (hz : b.length ≤ 1000000000) (hk : k ≤ b.length) (he : EndsLF b) : Calls Tryd.prog 28 #[.slice a b.length c, .int .i64 k] w (RefLine b (lineF (b.drop k)) w) := by
  have HB := Lib.hid hb
  obtain ⟨R, hR⟩ : ∃ R, lineF (b.drop k) = R := ⟨_, rfl⟩
  rw [hR]
  have HR0 : Hid (R = lineQ ((b.drop k).take (k - k)) (b.drop k)) := Lib.hid (by rw [← hR, Nat.sub_self]; exact (lineQ_eq _ _ (endsLF_drop he k) (by simp)).symm)
  obtain ⟨bl, hbl⟩ : ∃ bl, b.length = bl := ⟨_, rfl⟩
  have HBL := Lib.hid hbl
  rw [hbl] at hc hz hk ⊢
  clear hb hR he hbl
  go_enter Tryd.func28, Tryd.ntmps28
  go_wp2
  go_loop [7] (fun i => ∃ j : Nat, i = .int .i64 j ∧ k ≤ j ∧ j ≤ bl ∧ j - k ≤ 1025 ∧ Hid (R = lineQ ((b.drop k).take (j - k)) (b.drop j))) (fun i => bl + 1 - (intOf i).toNat)
  case atStart => exact ⟨k, rfl, Nat.le_refl _, hk, by omega, HR0⟩
  case round =>
    obtain ⟨j, rfl, hkj, hjb, hj10, HR⟩ := hrel
    cases hd : b.drop j with
    | nil =>
      have i1 : ¬ (j : Int) < (bl : Int) := by have := drop_end hd; have := HBL.out; omega
      have HE : Hid (R = .error 92) := Lib.hid (by rw [HR.out, hd, lineQ])
      clear hd
      go_wp2
      go_ret3
      exact refLine_error HE.out rfl
    | cons x r =>
      obtain ⟨g1, g2, g3⟩ := drop_get hd
      have i1 : (j : Int) < (bl : Int) := by have := HBL.out; omega
      have hlen : ((b.drop k).take (j - k)).length = j - k := by have := HBL.out; simp; omega
      obtain ⟨y, z, rfl, c1⟩ := HB.out j g2
      have hx1 : b[j] = x := by have := List.getElem?_eq_getElem g2; rw [g1] at this; exact (Option.some.inj this).symm
      rw [hx1] at c1
      by_cases hlong : 1024 < j - k
      · have l1 : (1024 : Int) < (j : Int) - (k : Int) := by omega
        have HE : Hid (R = .error 94) := Lib.hid (by rw [HR.out, hd, lineQ_bad (.inl (by omega))])
        clear hd g1 g3 hlen hx1
        go_wp2
        go_ret3
        exact refLine_error HE.out rfl
      · have l1 : ¬ ((1024 : Int) < (j : Int) - (k : Int)) := by omega
        by_cases h10 : x = 10
        · subst h10
          have HE : Hid (R = .error 94) := Lib.hid (by rw [HR.out, hd, lineQ_bad (.inr rfl)])
          clear hd g1 g3 hlen hx1
          go_wp2
          go_ret3
          exact refLine_error HE.out rfl
        · have q10 : ((x.toNat : Int) == 10) = false := by
            rw [beq_eq_false_iff_ne]
            intro e
            exact h10 (UInt8.toNat_inj.1 (by show x.toNat = 10; omega))
          by_cases h13 : x = 13
          · subst h13
            cases r with
            | nil =>
              have HE : Hid (R = .error 92) := Lib.hid (by rw [HR.out, hd, lineQ_cr (by omega)]; rfl)
              have i2 : (bl : Int) ≤ (j : Int) + 1 := by have := drop_end g3; have := HBL.out; omega
              clear hd g1 g3 hlen hx1
              go_wp2
              go_ret3
              exact refLine_error HE.out rfl
            | cons d r' =>
              obtain ⟨f1, f2, f3⟩ := drop_get g3
              have i2 : ¬ (bl : Int) ≤ (j : Int) + 1 := by have := HBL.out; omega
              obtain ⟨y2, z2, e2, c2⟩ := HB.out (j + 1) f2
              injection e2 with e2
              injection e2 with e3 e4
              subst e3
              subst e4
              have hx2 : b[j + 1] = d := by have := List.getElem?_eq_getElem f2; rw [f1] at this; exact (Option.some.inj this).symm
              rw [hx2] at c2
              have c3 := c2
              rw [← Nat.add_assoc] at c3
              have i3 : (j : Int) + 1 < (bl : Int) := by have := HBL.out; omega
              by_cases hd10 : d = 10
              · subst hd10
                have HE : Hid (R = .ok ((b.drop k).take (j - k), r')) := Lib.hid (by rw [HR.out, hd, lineQ_cr (by omega)]; rfl)
                have HRL : Hid (((bl - r'.length : Nat) : Int) = (j : Int) + 2) := Lib.hid (by have := congrArg List.length f3; rw [List.length_drop] at this; have := HBL.out; omega)
                obtain ⟨T, hT⟩ : ∃ T, (b.drop k).take (j - k) = T := ⟨_, rfl⟩
                rw [hT] at hlen HE
                have hcv : (convert 22 9 (.slice (some ⟨y, z + k, none⟩) (j - k) (c - k))).run Tryd.prog w = .ok (.string ⟨T.toArray⟩) w := by
                  have h1 := conv_bytes (w := w) (a := some ⟨y, z + k, none⟩) (l := T) (by rw [← hT]; exact bytesAt_take8 (bytesAt_drop8 HB.out k) (j - k)) (c - k)
                  rwa [hlen] at h1
                clear hd g1 g3 hlen hx1 hx2 f1 f3 hT
                obtain ⟨SS, hSS⟩ : ∃ SS : ByteArray, (⟨T.toArray⟩ : ByteArray) = SS := ⟨_, rfl⟩
                rw [hSS] at hcv
                have HSS := Lib.hid hSS
                have s1 : (j : Int) ≤ (c : Int) := by omega
                have s2 : (k : Int) ≤ (j : Int) := by omega
                clear hSS
                go_wp2
                go_ret3
                exact refLine_ok HE.out (by rw [HBL.out, HRL.out, HSS.out]; rfl)
              · have q2 : ((d.toNat : Int) == 10) = false := by
                  rw [beq_eq_false_iff_ne]
                  intro e
                  exact hd10 (UInt8.toNat_inj.1 (by show d.toNat = 10; omega))
                have q3 : ((d.toNat : Int) != 10) = true := by unfold bne; rw [q2]; rfl
                have HE : Hid (R = .error 94) := Lib.hid (by rw [HR.out, hd, lineQ_cr (by omega), crF, if_neg hd10])
                clear hd g1 g3 hlen hx1 hx2 f1 f3
                go_wp2
                go_ret3
                exact refLine_error HE.out rfl
          · have q13 : ((x.toNat : Int) == 13) = false := by
              rw [beq_eq_false_iff_ne]
              intro e
              exact h13 (UInt8.toNat_inj.1 (by show x.toNat = 13; omega))
            have HE : Hid (R = lineQ ((b.drop k).take (j + 1 - k)) (b.drop (j + 1))) := Lib.hid (by rw [HR.out, hd, lineQ_on (by omega) h10 h13, take_on hkj g1, g3])
            clear hd g1 g3 hlen hx1
            go_wp2
            go_round
            case rel => exact ⟨j + 1, by go_num, by omega, by omega, by omega, HE⟩
            case measure => simp [intOf]; omega
end Go.Proofs.YtkfnebpooohflaaDoor
