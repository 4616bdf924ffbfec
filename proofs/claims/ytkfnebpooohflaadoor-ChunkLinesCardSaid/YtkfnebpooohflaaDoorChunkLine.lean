/-
  chunk's reader: a line.
-/
import Derived.Test.YtkfnebpooohflaaDoorChunkReader
import Derived.Deep.QuietTactic
namespace Go.Proofs.YtkfnebpooohflaaDoor
open Go.RowKit HeadMath NormMath NormS ChunkMath

def LinePost (p : Nat) (a : Option Addr) (c : Nat) (b : Bs) (r : Except Nat (Bs × Bs)) (w : World) (e : Ending) (w' : World) : Prop := match r with
  | .error n => e = FaultC n ∧ Spares nowhere w w'
  | .ok (t, s) => e = .returned (.string ⟨t.toArray⟩) ∧ ∃ k, s = b.drop k ∧ IsR p a c b k w' ∧ Spares (fun x => x = p) w w'
theorem linePost_error {p : Nat} {a : Option Addr} {c : Nat} {b : Bs} {r : Except Nat (Bs × Bs)} {w w' : World} {e : Ending} {n : Nat} (h : r = .error n) (he : e = FaultC n) (hs : Spares nowhere w w') : LinePost p a c b r w e w' := by subst h; exact ⟨he, hs⟩
theorem linePost_ok {p : Nat} {a : Option Addr} {c k : Nat} {b t s : Bs} {r : Except Nat (Bs × Bs)} {w w' : World} {e : Ending} (h : r = .ok (t, s)) (he : e = .returned (.string ⟨t.toArray⟩)) (h1 : s = b.drop k) (h2 : IsR p a c b k w') (hs : Spares (fun x => x = p) w w') : LinePost p a c b r w e w' := by subst h; exact ⟨he, k, h1, h2, hs⟩
theorem take_on {b : Bs} {k i : Nat} {x : UInt8} (hk : k ≤ i) (h : b[i]? = some x) : (b.drop k).take (i + 1 - k) = (b.drop k).take (i - k) ++ [x] := by
  rw [show i + 1 - k = (i - k) + 1 by omega, List.take_add_one, List.getElem?_drop, show k + (i - k) = i by omega, h]
  rfl
set_option maxHeartbeats 8000000 in
theorem line_any {p : Nat} {a : Option Addr} {c k : Nat} {b : Bs} {w : World} (h : IsR p a c b k w) : Calls Tryd.prog 21 #[.pointer (some ⟨p, 0, none⟩)] w (LinePost p a c b (lineF (b.drop k)) w) := by
  have H := Lib.hid h
  have c0 := h.c0
  have c1 := h.c1
  have hsz := h.size
  have hle := h.le
  have hcp := h.cap
  have hfz := h.fz 1
  obtain ⟨R, hR⟩ : ∃ R, lineF (b.drop k) = R := ⟨_, rfl⟩
  rw [hR]
  have HR0 : Hid (R = lineG ((b.drop k).take (k - k)) (b.drop k)) := Lib.hid (by rw [← hR, Nat.sub_self]; rfl)
  clear h hR
  go_enter Tryd.func21, Tryd.ntmps21
  go_wp2
  go_loopw [3] (fun i wr => ∃ j : Nat, i = .int .i64 j ∧ k ≤ j ∧ j ≤ b.length ∧ j - k ≤ 1024 ∧ Hid (R = lineG ((b.drop k).take (j - k)) (b.drop j)) ∧ Hid (wr = w)) (fun i _ => b.length + 1 - (intOf i).toNat)
  case atStart => exact ⟨k, rfl, Nat.le_refl _, hle, by omega, HR0, Lib.hid rfl⟩
  case round =>
    obtain ⟨j, rfl, hkj, hjb, hj10, HR, HW⟩ := hrel
    obtain rfl := HW.out
    cases hd : b.drop j with
    | nil =>
      have cN := next_out H.out j (drop_end hd) (by omega)
      unfold Fell at cN
      have HE : Hid (R = .error 92) := Lib.hid (by rw [HR.out, hd, lineG])
      clear hd
      go_wp2_with fail
      refine cN.mono ?_
      rintro e w1 ⟨rfl, hs⟩
      unfold FaultC
      go_wp2
      exact ⟨rfl, linePost_error HE.out rfl hs⟩
    | cons x r =>
      obtain ⟨g1, g2, g3⟩ := drop_get hd
      have cN := next_in H.out j x g1
      have hlen : ((b.drop k).take (j - k)).length = j - k := by simp; omega
      by_cases h13 : x = 13
      · subst h13
        cases r with
        | nil =>
          have cN2 := next_out H.out (j + 1) (drop_end g3) (by omega)
          unfold Fell at cN2
          rw [show ((j + 1 : Nat) : Int) = (j : Int) + 1 by omega] at cN2
          have HE : Hid (R = .error 92) := Lib.hid (by rw [HR.out, hd, lineG_cr])
          clear hd g1 g3 hlen
          go_wp2_with fail
          refine cN.mono ?_
          rintro e w1 ⟨rfl, hw⟩
          replace hw := hw.symm
          subst hw
          go_wp2_with fail
          refine cN2.mono ?_
          rintro e w1 ⟨rfl, hs⟩
          unfold FaultC
          go_wp2
          exact ⟨rfl, linePost_error HE.out rfl hs⟩
        | cons d r' =>
          obtain ⟨f1, f2, f3⟩ := drop_get g3
          have cN2 := next_in H.out (j + 1) d f1
          rw [show ((j + 1 : Nat) : Int) = (j : Int) + 1 by omega] at cN2
          by_cases h10 : d = 10
          · subst h10
            have HE : Hid (R = .ok ((b.drop k).take (j - k), r')) := Lib.hid (by rw [HR.out, hd, lineG_end])
            have F3 := Lib.hid f3
            obtain ⟨y, o, rfl, _⟩ := H.out.bytes j g2
            obtain ⟨T, hT⟩ : ∃ T, (b.drop k).take (j - k) = T := ⟨_, rfl⟩
            rw [hT] at hlen HE
            have hcv : ∀ W : World, BytesAt W (some ⟨y, o + k, none⟩) T → (convert 22 9 (.slice (some ⟨y, o + k, none⟩) (j - k) (c - k))).run Tryd.prog W = .ok (.string ⟨T.toArray⟩) W := fun W hb => by
              have := conv_bytes hb (c - k)
              rwa [hlen] at this
            have hbt : ∀ m, BytesAt (wr.drewN m) (some ⟨y, o + k, none⟩) T := fun m => by rw [← hT]; exact bytesAt_drop (H.out.bytes.spares (F := nowhere) ((Spares.refl _ _).drewN m) (fun _ _ _ h => h)) k (j - k)
            have hcv0 := hcv wr (hbt 0)
            have hcv1 := hcv wr.drew (hbt 1)
            have hmv := H.out.move (j := j + 2) (by omega)
            rw [show ((j + 2 : Nat) : Int) = (j : Int) + 2 by omega] at hmv
            have HM := Lib.hid hmv
            obtain ⟨S, hS⟩ : ∃ S : ByteArray, (⟨T.toArray⟩ : ByteArray) = S := ⟨_, rfl⟩
            rw [hS] at hcv0 hcv1
            have HSS := Lib.hid hS
            obtain ⟨n, hn⟩ : ∃ n, b.length = n := ⟨_, rfl⟩
            rw [hn] at c0 hcp hjb hle hsz f2 g2
            have l1 : (j : Int) ≤ (n : Int) := by omega
            have l2 : (j : Int) ≤ (c : Int) := by omega
            have l3 : (k : Int) ≤ (j : Int) := by omega
            have HN := Lib.hid hn
            clear hd g1 g3 f1 f3 hcv hbt hT hlen hmv hS hn
            go_wp2_with fail
            refine cN.mono ?_
            rintro e w1 ⟨rfl, hw⟩
            replace hw := hw.symm
            subst hw
            go_wp2_with fail
            refine cN2.mono ?_
            rintro e w1 ⟨rfl, hw⟩
            replace hw := hw.symm
            subst hw
            go_wp2
            go_region
            go_wp2
            go_ret
            exact linePost_ok HE.out (by rw [HSS.out]; rfl) F3.out.symm (HM.out.1.quiet ((Spares.refl _ _).drew)) HM.out.2.drew
          · have HE : Hid (R = .error 94) := Lib.hid (by rw [HR.out, hd, lineG_bad h10])
            have q : ((d.toNat : Int) == 10) = false := by
              rw [beq_eq_false_iff_ne]
              intro e
              exact h10 (UInt8.toNat_inj.1 (by show d.toNat = 10; omega))
            clear hd g1 g3 f1 f3 hlen h10
            go_wp2_with fail
            refine cN.mono ?_
            rintro e w1 ⟨rfl, hw⟩
            replace hw := hw.symm
            subst hw
            go_wp2_with fail
            refine cN2.mono ?_
            rintro e w1 ⟨rfl, hw⟩
            replace hw := hw.symm
            subst hw
            go_wp2
            exact ⟨rfl, linePost_error HE.out rfl (Spares.refl _ _)⟩
      · have q13 : ((x.toNat : Int) == 13) = false := by
          rw [beq_eq_false_iff_ne]
          intro e
          exact h13 (UInt8.toNat_inj.1 (by show x.toNat = 13; omega))
        by_cases h10 : x = 10
        · subst h10
          have HE : Hid (R = .error 94) := Lib.hid (by rw [HR.out, hd, lineG_lf])
          clear hd g1 g3 hlen h13
          go_wp2_with fail
          refine cN.mono ?_
          rintro e w1 ⟨rfl, hw⟩
          replace hw := hw.symm
          subst hw
          go_wp2
          exact ⟨rfl, linePost_error HE.out rfl (Spares.refl _ _)⟩
        · have q10 : ((x.toNat : Int) == 10) = false := by
            rw [beq_eq_false_iff_ne]
            intro e
            exact h10 (UInt8.toNat_inj.1 (by show x.toNat = 10; omega))
          by_cases hlong : 1024 ≤ j - k
          · have HE : Hid (R = .error 94) := Lib.hid (by rw [HR.out, hd, lineG_long h13 (by rw [hlen]; exact hlong)])
            have l1 : (1024 : Int) ≤ (j : Int) - (k : Int) := by omega
            clear hd g1 g3 hlen h13 h10
            go_wp2_with fail
            refine cN.mono ?_
            rintro e w1 ⟨rfl, hw⟩
            replace hw := hw.symm
            subst hw
            go_wp2
            exact ⟨rfl, linePost_error HE.out rfl (Spares.refl _ _)⟩
          · have HE : Hid (R = lineG ((b.drop k).take (j + 1 - k)) (b.drop (j + 1))) := Lib.hid (by rw [HR.out, hd, lineG_plain ⟨h13, h10⟩ (by omega), take_on hkj g1, g3])
            have l1 : ¬ ((1024 : Int) ≤ (j : Int) - (k : Int)) := by omega
            clear hd g1 g3 hlen h13 h10
            go_wp2_with fail
            refine cN.mono ?_
            rintro e w1 ⟨rfl, hw⟩
            replace hw := hw.symm
            subst hw
            go_wp2
            go_roundw
            case rel => exact ⟨j + 1, by go_num, by omega, by omega, by omega, HE, by first | exact Lib.hid rfl | exact Lib.hid trivial⟩
            case measure => simp [intOf]; omega
end Go.Proofs.YtkfnebpooohflaaDoor
