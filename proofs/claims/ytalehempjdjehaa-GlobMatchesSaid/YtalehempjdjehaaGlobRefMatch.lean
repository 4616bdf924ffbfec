/-
  The reference's Match answers what the mathematics says.
-/
import Derived.Test.YtalehempjdjehaaGlobRefs
import Derived.BigQuiet
import Derived.Deep.QuietTactic
namespace Go.Proofs.Ytalehempjdjehaa
open Go.RowKit GlobMath

theorem below_drewN {B : Nat} {a w : World} (h : Below B a w) (n : Nat) : Below B a (w.drewN n) := ⟨h.os, h.tape, h.output, h.size, h.block⟩

def pre (A : Nat → Bool) : Nat → Bool
  | 0 => false
  | j + 1 => A j
theorem row_step' {n j : Nat} {A : Nat → Bool} {b : Bool} (h : b = A j) :
    (rowCells n fun m => decide (m < j) && A m).setIfInBounds j (.bool b) = rowCells n (fun m => decide (m < j + 1) && A m) := by
  rw [rowCells_set]
  apply rowCells_congr
  intro m _
  by_cases hm : m = j
  · subst hm; simp [h]
  · rw [if_neg hm]
    by_cases h1 : m < j
    · simp [h1, Nat.lt_succ_of_lt h1]
    · have h2 : ¬ m < j + 1 := by omega
      simp [h1, h2]
theorem end_row' {n : Nat} {A : Nat → Bool} : rowCells n (fun m => decide (m < n) && A m) = rowCells n A := by
  apply rowCells_congr
  intro m hm
  simp [hm]
theorem start_row' {n : Nat} {A : Nat → Bool} : rowCells n (fun _ => false) = rowCells n (fun m => decide (m < 0) && A m) := by
  apply rowCells_congr
  intro m _
  simp
theorem start_row0 {n : Nat} {A : Nat → Bool} (h : A 0 = false) : rowCells n (fun _ => false) = rowCells n (fun m => decide (m ≤ 0) && A m) := by
  apply rowCells_congr
  intro m _
  by_cases hm : m = 0
  · subst hm; simp [h]
  · have : ¬ m ≤ 0 := by omega
    simp [this]
theorem any_step (c : UInt8) (f : Nat → Bool) (S : List UInt8) (j : Nat) : (pre (af (3, c) f S) j || f j) = af (3, c) f S j := by
  cases j with
  | zero => rw [af_any_zero]; rfl
  | succ j => rw [af_any_succ, Bool.or_comm]; rfl
theorem some_zero (c : UInt8) (f : Nat → Bool) (S : List UInt8) : af (2, c) f S 0 = f 0 := by simp [af, lng]
theorem some_succ (c : UInt8) (f : Nat → Bool) (S : List UInt8) (j : Nat) : af (2, c) f S (j + 1) = (f (j + 1) || (af (2, c) f S j && (S.getD j 0 != 47))) := by simp [af, lng, takes]
theorem short_zero (k : Nat) (c : UInt8) (f : Nat → Bool) (S : List UInt8) (h : k < 2) : af (k, c) f S 0 = false := by
  have : lng (k, c) = false := by simp [lng]; omega
  simp [af, this]
theorem short_succ (k : Nat) (c : UInt8) (f : Nat → Bool) (S : List UInt8) (j : Nat) (h : k < 2) : af (k, c) f S (j + 1) = (f j && takes (k, c) (S.getD j 0)) := by
  have : lng (k, c) = false := by simp [lng]; omega
  conv => lhs; unfold af
  rw [if_neg (by simp [this])]

theorem refValid_yes (p : ByteArray) (w : World) (h : validF p.data.toList = true) (hp : p.size ≤ 1000000000000) :
    Calls Try.prog 12 #[.string p] w fun e w' => e = .returned (.int .i64 0) ∧ w = w' := by
  have := refValid_any p w hp
  rw [h] at this; exact this
theorem refValid_no (p : ByteArray) (w : World) (h : validF p.data.toList = false) (hp : p.size ≤ 1000000000000) :
    Calls Try.prog 12 #[.string p] w fun e w' => e = .returned (.int .i64 120) ∧ w = w' := by
  have := refValid_any p w hp
  rw [h] at this; exact this

set_option maxHeartbeats 400000 in
theorem refMatch_no (p s : ByteArray) (w : World) (h : validF p.data.toList = false) (hp : p.size ≤ 1000000000000) :
    Calls Try.prog 10 #[.string p, .string s] w fun e w' => e = .returned (.bool false) ∧ Below w.heap.size w w' := by
  have HV := Lib.hid h
  clear h
  go_enter Try.func10, Try.ntmps10
  go_wp2_with (go_at_call 12; refine (refValid_no p _ HV.out hp).mono ?_; rintro e w1 ⟨rfl, rfl⟩)
  go_ret
  exact ⟨rfl, Below.refl _ _⟩

set_option maxHeartbeats 8000000 in
set_option maxRecDepth 100000 in
theorem refMatch_yes (p s : ByteArray) (l : List (Nat × UInt8)) (w : World) (hp : p.size ≤ 1000000000000) (hs : s.size ≤ 1000000000000) (hv : validF p.data.toList = true) (hl : parts p.data.toList = some l) :
    Calls Try.prog 10 #[.string p, .string s] w fun e w' => e = .returned (.bool (rowF s.data.toList l s.size)) ∧ Below w.heap.size w w' := by
  have HV := Lib.hid hv
  have HL := Lib.hid hl
  clear hv hl
  obtain ⟨i0, hi, hz0, hz1, hz2⟩ := info_parts boolInfo
  go_enter Try.func10, Try.ntmps10
  go_wp2_with (first | (go_at_call 12; refine (refValid_yes p _ HV.out hp).mono ?_; rintro e w1 ⟨rfl, rfl⟩) | (at_make; refine wpList_make_full _ rfl _ _ 29 rfl w.heap.size 4 i0 (.bool false) 1 Try.underlying29 hi hz0 hz1 .i64 .i64 _ _ (s.size + 1) rfl rfl ?a1 ?a2 ?a3 ?a4 ?a5 ?_))
  case a1 => omega
  case a2 => omega
  case a3 => rw [hz2]; omega
  case a4 => unfold maxLen; omega
  case a5 => exact Nat.le_refl _
  intro w2 hown2 hg2
  have hb2 : Below w.heap.size w w2 := (Below.refl _ _).grown hg2 (Nat.le_refl _) (by intro k hk; cases hk)
  have hA : Blk w2 w.heap.size 4 (rowCells (s.size + 1) fun _ => false) := blk_made hown2
  clear hown2 hg2
  have a0 := hA.cell 0
  rw [rowCells_get _ (by omega)] at a0
  have af0 := hA.frozen 0
  go_wp2
  have hA1 := hA.set_ 0 (.bool true)
  rw [rowCells_set] at hA1
  have hb3 : Below w.heap.size w (w2.setCell ⟨w.heap.size, 0, none⟩ (.bool true)) := hb2.setCell (by simp) _
  clear a0 af0 hA hb2
  generalize w2.setCell ⟨w.heap.size, 0, none⟩ (.bool true) = w3 at *
  go_loopw [5, 6] (fun r i wr => ∃ (k g : Nat) (done : List (Nat × UInt8)), k ≤ p.size ∧ i = .int .i64 k ∧ r = .slice (some ⟨g, 0, none⟩) (s.size + 1) (s.size + 1) ∧ Blk wr g 4 (rowCells (s.size + 1) (rowF s.data.toList done)) ∧ Below w.heap.size w wr ∧ ReadTo p.data.toList (p.data.toList.drop k) done)
    (fun _ i _ => p.size - (intOf i).toNat)
  case atStart =>
    refine ⟨0, _, [], Nat.zero_le _, rfl, rfl, ?_, hb3, ReadTo.start _⟩
    rw [rowCells_congr (g := fun k => if k = 0 then true else false) (fun j _ => by by_cases h : j = 0 <;> simp [rowF, row0, h])]
    exact hA1
  case round =>
    obtain ⟨k, g, done, hk, rfl, rfl, hrow, hbr, hread⟩ := hrel
    clear hA1 hb3
    obtain ⟨wo, rfl⟩ : ∃ wo : World, wo = wr := ⟨_, rfl⟩
    have HRD := Lib.hid hread
    clear hread
    by_cases hlt : k < p.size
    · have HD := Lib.hid (drop_at p k hlt)
      generalize hf : rowF s.data.toList done = f at hrow
      have HF := Lib.hid hf
      clear hf
      have hos := hbr.size
      by_cases h42 : p[k] = 42
      · have q42 : ((p[k].toNat : Int) == 42) = true := by rw [h42]; rfl
        by_cases hA : (p.data.toList.drop (k + 1)).head? = some 42
        · have hlt2 : k + 1 < p.size := by
            rcases Nat.lt_or_ge (k + 1) p.size with h | h
            · exact h
            · rw [List.drop_eq_nil_of_le (by rw [size_list]; exact h)] at hA; simp at hA
          have h43 : p[k + 1] = 42 := by rw [drop_at p (k + 1) hlt2] at hA; simpa using hA
          have q43 : ((p[k + 1].toNat : Int) == 42) = true := by rw [h43]; rfl
          have hltI : (k : Int) + 1 < p.size := by omega
          have HS := Lib.hid (show stepP (p.data.toList.drop k) = some ((3, 0), 2) from by rw [HD.out, h42]; simp [stepP, hA])
          clear h42 hA h43
          go_wp2_with (at_make; refine wpList_make_full _ rfl _ _ 29 rfl wo.heap.size 4 i0 (.bool false) 1 Try.underlying29 hi hz0 hz1 .i64 .i64 _ _ (s.size + 1) rfl rfl ?m1 ?m2 ?m3 ?m4 ?m5 ?_)
          case m1 => omega
          case m2 => omega
          case m3 => rw [hz2]; omega
          case m4 => unfold maxLen; omega
          case m5 => exact Nat.le_refl _
          intro w4 hown4 hg4
          have hbm : Below w.heap.size w w4 := hbr.grown hg4 hbr.size (by intro k hk; cases hk)
          have hN : Blk w4 wo.heap.size 4 (rowCells (s.size + 1) fun _ => false) := blk_made hown4
          have hO : Blk w4 g 4 (rowCells (s.size + 1) f) := hrow.grown hg4 (by simp)
          have hgo : g ≠ wo.heap.size := by have := hrow.lt; omega
          clear hown4 hg4 hrow hbr
          go_wp2
          have hN0 := hN
          rw [start_row' (A := af (3, 0) f s.data.toList)] at hN0
          clear hN
          go_loopw [8, 9] (fun o i wr => ∃ j : Nat, j ≤ s.size + 1 ∧ i = .int .i64 j ∧ o = .bool (pre (af (3, 0) f s.data.toList) j) ∧ Blk wr wo.heap.size 4 (rowCells (s.size + 1) fun m => decide (m < j) && af (3, 0) f s.data.toList m) ∧ Blk wr g 4 (rowCells (s.size + 1) f) ∧ Below w.heap.size w wr)
            (fun _ i _ => s.size + 1 - (intOf i).toNat)
          case atStart => exact ⟨0, Nat.zero_le _, rfl, rfl, hN0, hO, hbm⟩
          case round =>
            obtain ⟨j, hj, rfl, rfl, hNr, hOr, hbr⟩ := hrel
            clear hN0 hO hbm
            by_cases hjl : j < s.size + 1
            · have o0 := hOr.cell j
              rw [rowCells_get _ hjl] at o0
              have n0 := hNr.cell j
              rw [rowCells_get _ hjl] at n0
              have nf := hNr.frozen j
              have hjI : (j : Int) ≤ s.size := by omega
              have HQ := Lib.hid (any_step 0 f s.data.toList j)
              cases ho : pre (af (3, 0) f s.data.toList) j with
              | true =>
                have HT := Lib.hid (show true = af (3, 0) f s.data.toList j from by rw [← HQ.out, ho]; rfl)
                clear ho
                go_wp2
                go_roundw
                case rel =>
                  refine ⟨j + 1, by omega, by go_num, ?_, ?_, hOr.far (p := ⟨wo.heap.size, j, none⟩) hgo _, hbr.setCell (p := ⟨wo.heap.size, j, none⟩) hos _⟩
                  · exact congrArg Value.bool (HT.out)
                  · rw [← row_step' (b := true) (HT.out)]; exact hNr.set_ j _
                case measure => (simp [intOf]) <;> omega
              | false =>
                have HT := Lib.hid (show f j = af (3, 0) f s.data.toList j from by rw [← HQ.out, ho]; simp)
                clear ho
                go_wp2
                go_roundw
                case rel =>
                  refine ⟨j + 1, by omega, by go_num, ?_, ?_, hOr.far (p := ⟨wo.heap.size, j, none⟩) hgo _, hbr.setCell (p := ⟨wo.heap.size, j, none⟩) hos _⟩
                  · exact congrArg Value.bool (HT.out)
                  · rw [← row_step' (b := f j) (HT.out)]; exact hNr.set_ j _
                case measure => (simp [intOf]) <;> omega
            · have hje : j = s.size + 1 := by omega
              subst hje
              rw [end_row'] at hNr
              have hjI : (s.size : Int) < ((s.size + 1 : Nat) : Int) := by omega
              have hjD : decide (((s.size + 1 : Nat) : Int) ≤ (s.size : Int)) = false := decide_eq_false (by omega)
              go_wp2
              go_roundw
              case rel =>
                refine ⟨k + 2, _, done ++ [(3, 0)], by omega, by go_num, rfl, ?_, hbr, ?_⟩
                · rw [rowF_snoc, HF.out]; exact hNr
                · have := HRD.out.step HS.out; rwa [List.drop_drop] at this
              case measure => (simp [intOf]) <;> omega
        · have HS := Lib.hid (show stepP (p.data.toList.drop k) = some ((2, 0), 1) from by rw [HD.out, h42]; simp only [stepP]; rw [if_pos trivial, if_neg hA])
          by_cases hlt2 : k + 1 < p.size
          · have h43 : ¬ p[k + 1] = 42 := by rw [drop_at p (k + 1) hlt2] at hA; simpa using hA
            have q43 : ((p[k + 1].toNat : Int) == 42) = false := (u8_beq_lit _ 42 (by omega)).trans (by simpa using h43)
            have hltI : (k : Int) + 1 < p.size := by omega
            clear h42 hA h43
            go_wp2_with (at_make; refine wpList_make_full _ rfl _ _ 29 rfl wo.heap.size 4 i0 (.bool false) 1 Try.underlying29 hi hz0 hz1 .i64 .i64 _ _ (s.size + 1) rfl rfl ?m1 ?m2 ?m3 ?m4 ?m5 ?_)
            case m1 => omega
            case m2 => omega
            case m3 => rw [hz2]; omega
            case m4 => unfold maxLen; omega
            case m5 => exact Nat.le_refl _
            intro w4 hown4 hg4
            have hbm : Below w.heap.size w w4 := hbr.grown hg4 hbr.size (by intro k hk; cases hk)
            have hN : Blk w4 wo.heap.size 4 (rowCells (s.size + 1) fun _ => false) := blk_made hown4
            have hO : Blk w4 g 4 (rowCells (s.size + 1) f) := hrow.grown hg4 (by simp)
            have hgo : g ≠ wo.heap.size := by have := hrow.lt; omega
            clear hown4 hg4 hrow hbr
            go_wp2
            have hN0 := hN
            rw [start_row' (A := af (2, 0) f s.data.toList)] at hN0
            clear hN
            go_loopw [10, 11] (fun o i wr => ∃ j : Nat, j ≤ s.size + 1 ∧ i = .int .i64 j ∧ o = .bool (pre (af (2, 0) f s.data.toList) j) ∧ Blk wr wo.heap.size 4 (rowCells (s.size + 1) fun m => decide (m < j) && af (2, 0) f s.data.toList m) ∧ Blk wr g 4 (rowCells (s.size + 1) f) ∧ Below w.heap.size w wr)
              (fun _ i _ => s.size + 1 - (intOf i).toNat)
            case atStart => exact ⟨0, Nat.zero_le _, rfl, rfl, hN0, hO, hbm⟩
            case round =>
              obtain ⟨j, hj, rfl, rfl, hNr, hOr, hbr⟩ := hrel
              clear hN0 hO hbm
              by_cases hjl : j < s.size + 1
              · have o0 := hOr.cell j
                rw [rowCells_get _ hjl] at o0
                have n0 := hNr.cell j
                rw [rowCells_get _ hjl] at n0
                have nf := hNr.frozen j
                have hjI : (j : Int) ≤ s.size := by omega
                cases j with
                | zero =>
                  have HT := Lib.hid (show f 0 = af (2, 0) f s.data.toList 0 from (some_zero _ _ _).symm)
                  go_wp2
                  go_roundw
                  case rel =>
                    refine ⟨0 + 1, by omega, by go_num, ?_, ?_, hOr.far (p := ⟨wo.heap.size, 0, none⟩) hgo _, hbr.setCell (p := ⟨wo.heap.size, 0, none⟩) hos _⟩
                    · exact congrArg Value.bool (HT.out)
                    · rw [← row_step' (b := f 0) (HT.out)]; exact hNr.set_ 0 _
                  case measure => (simp [intOf]) <;> omega
                | succ j =>
                  have hjs : j < s.size := by omega
                  have HQ := Lib.hid (some_succ 0 f s.data.toList j)
                  have HB := Lib.hid (bytes_at s j hjs)
                  have q0 : (0 : Int) < ((j + 1 : Nat) : Int) := by omega
                  have e1 : ((j + 1 : Nat) : Int) - 1 = (j : Int) := by omega
                  by_cases h47 : s[j] = 47
                  · have q47 : ((s[j].toNat : Int) == 47) = true := by rw [h47]; rfl
                    have HT := Lib.hid (show f (j + 1) = af (2, 0) f s.data.toList (j + 1) from by rw [HQ.out, HB.out, h47]; simp)
                    clear h47
                    go_wp2
                    go_roundw
                    case rel =>
                      refine ⟨j + 1 + 1, by omega, by go_num, ?_, ?_, hOr.far (p := ⟨wo.heap.size, j + 1, none⟩) hgo _, hbr.setCell (p := ⟨wo.heap.size, j + 1, none⟩) hos _⟩
                      · exact congrArg Value.bool (HT.out)
                      · rw [← row_step' (b := f (j + 1)) (HT.out)]; exact hNr.set_ (j + 1) _
                    case measure => (simp [intOf]) <;> omega
                  · have q47 : ((s[j].toNat : Int) == 47) = false := (u8_beq_lit _ 47 (by omega)).trans (by simpa using h47)
                    have hb47 : (s[j] != 47) = true := by simpa using h47
                    cases ho : af (2, 0) f s.data.toList j with
                    | true =>
                      have HT := Lib.hid (show true = af (2, 0) f s.data.toList (j + 1) from by rw [HQ.out, HB.out, ho, hb47]; simp)
                      have hp' : pre (af (2, 0) f s.data.toList) (j + 1) = true := ho
                      clear h47 ho hb47
                      go_wp2
                      go_roundw
                      case rel =>
                        refine ⟨j + 1 + 1, by omega, by go_num, ?_, ?_, hOr.far (p := ⟨wo.heap.size, j + 1, none⟩) hgo _, hbr.setCell (p := ⟨wo.heap.size, j + 1, none⟩) hos _⟩
                        · exact congrArg Value.bool (HT.out)
                        · rw [← row_step' (b := true) (HT.out)]; exact hNr.set_ (j + 1) _
                      case measure => (simp [intOf]) <;> omega
                    | false =>
                      have HT := Lib.hid (show f (j + 1) = af (2, 0) f s.data.toList (j + 1) from by rw [HQ.out, HB.out, ho]; simp)
                      have hp' : pre (af (2, 0) f s.data.toList) (j + 1) = false := ho
                      clear h47 ho hb47
                      go_wp2
                      go_roundw
                      case rel =>
                        refine ⟨j + 1 + 1, by omega, by go_num, ?_, ?_, hOr.far (p := ⟨wo.heap.size, j + 1, none⟩) hgo _, hbr.setCell (p := ⟨wo.heap.size, j + 1, none⟩) hos _⟩
                        · exact congrArg Value.bool (HT.out)
                        · rw [← row_step' (b := f (j + 1)) (HT.out)]; exact hNr.set_ (j + 1) _
                      case measure => (simp [intOf]) <;> omega
              · have hje : j = s.size + 1 := by omega
                subst hje
                rw [end_row'] at hNr
                have hjI : (s.size : Int) < ((s.size + 1 : Nat) : Int) := by omega
                have hjD : decide (((s.size + 1 : Nat) : Int) ≤ (s.size : Int)) = false := decide_eq_false (by omega)
                go_wp2
                go_roundw
                case rel =>
                  refine ⟨k + 1, _, done ++ [(2, 0)], by omega, by go_num, rfl, ?_, hbr, ?_⟩
                  · rw [rowF_snoc, HF.out]; exact hNr
                  · have := HRD.out.step HS.out; rwa [List.drop_drop] at this
                case measure => (simp [intOf]) <;> omega
          · have hltI : (p.size : Int) ≤ (k : Int) + 1 := by omega
            have hltD : decide ((k : Int) + 1 < p.size) = false := decide_eq_false (by omega)
            clear h42 hA hlt2
            go_wp2_with (at_make; refine wpList_make_full _ rfl _ _ 29 rfl wo.heap.size 4 i0 (.bool false) 1 Try.underlying29 hi hz0 hz1 .i64 .i64 _ _ (s.size + 1) rfl rfl ?m1 ?m2 ?m3 ?m4 ?m5 ?_)
            case m1 => omega
            case m2 => omega
            case m3 => rw [hz2]; omega
            case m4 => unfold maxLen; omega
            case m5 => exact Nat.le_refl _
            intro w4 hown4 hg4
            have hbm : Below w.heap.size w w4 := hbr.grown hg4 hbr.size (by intro k hk; cases hk)
            have hN : Blk w4 wo.heap.size 4 (rowCells (s.size + 1) fun _ => false) := blk_made hown4
            have hO : Blk w4 g 4 (rowCells (s.size + 1) f) := hrow.grown hg4 (by simp)
            have hgo : g ≠ wo.heap.size := by have := hrow.lt; omega
            clear hown4 hg4 hrow hbr
            go_wp2
            have hN0 := hN
            rw [start_row' (A := af (2, 0) f s.data.toList)] at hN0
            clear hN
            go_loopw [10, 11] (fun o i wr => ∃ j : Nat, j ≤ s.size + 1 ∧ i = .int .i64 j ∧ o = .bool (pre (af (2, 0) f s.data.toList) j) ∧ Blk wr wo.heap.size 4 (rowCells (s.size + 1) fun m => decide (m < j) && af (2, 0) f s.data.toList m) ∧ Blk wr g 4 (rowCells (s.size + 1) f) ∧ Below w.heap.size w wr)
              (fun _ i _ => s.size + 1 - (intOf i).toNat)
            case atStart => exact ⟨0, Nat.zero_le _, rfl, rfl, hN0, hO, hbm⟩
            case round =>
              obtain ⟨j, hj, rfl, rfl, hNr, hOr, hbr⟩ := hrel
              clear hN0 hO hbm
              by_cases hjl : j < s.size + 1
              · have o0 := hOr.cell j
                rw [rowCells_get _ hjl] at o0
                have n0 := hNr.cell j
                rw [rowCells_get _ hjl] at n0
                have nf := hNr.frozen j
                have hjI : (j : Int) ≤ s.size := by omega
                cases j with
                | zero =>
                  have HT := Lib.hid (show f 0 = af (2, 0) f s.data.toList 0 from (some_zero _ _ _).symm)
                  go_wp2
                  go_roundw
                  case rel =>
                    refine ⟨0 + 1, by omega, by go_num, ?_, ?_, hOr.far (p := ⟨wo.heap.size, 0, none⟩) hgo _, hbr.setCell (p := ⟨wo.heap.size, 0, none⟩) hos _⟩
                    · exact congrArg Value.bool (HT.out)
                    · rw [← row_step' (b := f 0) (HT.out)]; exact hNr.set_ 0 _
                  case measure => (simp [intOf]) <;> omega
                | succ j =>
                  have hjs : j < s.size := by omega
                  have HQ := Lib.hid (some_succ 0 f s.data.toList j)
                  have HB := Lib.hid (bytes_at s j hjs)
                  have q0 : (0 : Int) < ((j + 1 : Nat) : Int) := by omega
                  have e1 : ((j + 1 : Nat) : Int) - 1 = (j : Int) := by omega
                  by_cases h47 : s[j] = 47
                  · have q47 : ((s[j].toNat : Int) == 47) = true := by rw [h47]; rfl
                    have HT := Lib.hid (show f (j + 1) = af (2, 0) f s.data.toList (j + 1) from by rw [HQ.out, HB.out, h47]; simp)
                    clear h47
                    go_wp2
                    go_roundw
                    case rel =>
                      refine ⟨j + 1 + 1, by omega, by go_num, ?_, ?_, hOr.far (p := ⟨wo.heap.size, j + 1, none⟩) hgo _, hbr.setCell (p := ⟨wo.heap.size, j + 1, none⟩) hos _⟩
                      · exact congrArg Value.bool (HT.out)
                      · rw [← row_step' (b := f (j + 1)) (HT.out)]; exact hNr.set_ (j + 1) _
                    case measure => (simp [intOf]) <;> omega
                  · have q47 : ((s[j].toNat : Int) == 47) = false := (u8_beq_lit _ 47 (by omega)).trans (by simpa using h47)
                    have hb47 : (s[j] != 47) = true := by simpa using h47
                    cases ho : af (2, 0) f s.data.toList j with
                    | true =>
                      have HT := Lib.hid (show true = af (2, 0) f s.data.toList (j + 1) from by rw [HQ.out, HB.out, ho, hb47]; simp)
                      have hp' : pre (af (2, 0) f s.data.toList) (j + 1) = true := ho
                      clear h47 ho hb47
                      go_wp2
                      go_roundw
                      case rel =>
                        refine ⟨j + 1 + 1, by omega, by go_num, ?_, ?_, hOr.far (p := ⟨wo.heap.size, j + 1, none⟩) hgo _, hbr.setCell (p := ⟨wo.heap.size, j + 1, none⟩) hos _⟩
                        · exact congrArg Value.bool (HT.out)
                        · rw [← row_step' (b := true) (HT.out)]; exact hNr.set_ (j + 1) _
                      case measure => (simp [intOf]) <;> omega
                    | false =>
                      have HT := Lib.hid (show f (j + 1) = af (2, 0) f s.data.toList (j + 1) from by rw [HQ.out, HB.out, ho]; simp)
                      have hp' : pre (af (2, 0) f s.data.toList) (j + 1) = false := ho
                      clear h47 ho hb47
                      go_wp2
                      go_roundw
                      case rel =>
                        refine ⟨j + 1 + 1, by omega, by go_num, ?_, ?_, hOr.far (p := ⟨wo.heap.size, j + 1, none⟩) hgo _, hbr.setCell (p := ⟨wo.heap.size, j + 1, none⟩) hos _⟩
                        · exact congrArg Value.bool (HT.out)
                        · rw [← row_step' (b := f (j + 1)) (HT.out)]; exact hNr.set_ (j + 1) _
                      case measure => (simp [intOf]) <;> omega
              · have hje : j = s.size + 1 := by omega
                subst hje
                rw [end_row'] at hNr
                have hjI : (s.size : Int) < ((s.size + 1 : Nat) : Int) := by omega
                have hjD : decide (((s.size + 1 : Nat) : Int) ≤ (s.size : Int)) = false := decide_eq_false (by omega)
                go_wp2
                go_roundw
                case rel =>
                  refine ⟨k + 1, _, done ++ [(2, 0)], by omega, by go_num, rfl, ?_, hbr, ?_⟩
                  · rw [rowF_snoc, HF.out]; exact hNr
                  · have := HRD.out.step HS.out; rwa [List.drop_drop] at this
                case measure => (simp [intOf]) <;> omega
      · have q42 : ((p[k].toNat : Int) == 42) = false := (u8_beq_lit _ 42 (by omega)).trans (by simpa using h42)
        by_cases h63 : p[k] = 63
        · have q63 : ((p[k].toNat : Int) == 63) = true := by rw [h63]; rfl
          have q92 : ((p[k].toNat : Int) == 92) = false := by rw [h63]; rfl
          have HS := Lib.hid (show stepP (p.data.toList.drop k) = some ((1, 0), 1) from by rw [HD.out, h63]; simp [stepP])
          clear h42 h63
          go_wp2_with (at_make; refine wpList_make_full _ rfl _ _ 29 rfl wo.heap.size 4 i0 (.bool false) 1 Try.underlying29 hi hz0 hz1 .i64 .i64 _ _ (s.size + 1) rfl rfl ?m1 ?m2 ?m3 ?m4 ?m5 ?_)
          case m1 => omega
          case m2 => omega
          case m3 => rw [hz2]; omega
          case m4 => unfold maxLen; omega
          case m5 => exact Nat.le_refl _
          intro w4 hown4 hg4
          have hbm : Below w.heap.size w w4 := hbr.grown hg4 hbr.size (by intro k hk; cases hk)
          have hN : Blk w4 wo.heap.size 4 (rowCells (s.size + 1) fun _ => false) := blk_made hown4
          have hO : Blk w4 g 4 (rowCells (s.size + 1) f) := hrow.grown hg4 (by simp)
          have hgo : g ≠ wo.heap.size := by have := hrow.lt; omega
          clear hown4 hg4 hrow hbr
          go_wp2
          go_quiet (fail)
          go_wp2
          have hN0 := hN
          rw [start_row0 (A := af (1, 0) f s.data.toList) (short_zero _ _ _ _ (by omega))] at hN0
          clear hN
          go_loopw [14] (fun i wr => ∃ j : Nat, j ≤ s.size ∧ i = .int .i64 j ∧ Blk wr wo.heap.size 4 (rowCells (s.size + 1) fun m => decide (m ≤ j) && af (1, 0) f s.data.toList m) ∧ Blk wr g 4 (rowCells (s.size + 1) f) ∧ Below w.heap.size w wr)
            (fun i _ => s.size - (intOf i).toNat)
          case atStart => exact ⟨0, Nat.zero_le _, rfl, hN0, hO, below_drewN hbm _⟩
          case round =>
            obtain ⟨j, hj, rfl, hNr, hOr, hbr⟩ := hrel
            clear hN0 hO hbm
            by_cases hjl : j < s.size
            · have o0 := hOr.cell j
              rw [rowCells_get _ (by omega)] at o0
              have n0 := hNr.cell (j + 1)
              rw [rowCells_get _ (by omega)] at n0
              have nf := hNr.frozen (j + 1)
              have HQ := Lib.hid ((short_succ 1 0 f s.data.toList j (by omega)).trans (by rw [bytes_at s j hjl]))
              cases hfj : f j with
              | true =>
                rw [hfj] at o0
                have HT := Lib.hid (show takes (1, 0) s[j] = af (1, 0) f s.data.toList (j + 1) from by rw [HQ.out, hfj]; simp)
                clear hfj
                by_cases h47 : s[j] = 47
                · have q47 : ((s[j].toNat : Int) != 47) = false := by rw [h47]; rfl
                  have HT2 := Lib.hid (show false = af (1, 0) f s.data.toList (j + 1) from by rw [← HT.out, h47]; rfl)
                  clear h47
                  go_wp2
                  go_roundw
                  case rel =>
                    refine ⟨j + 1, by omega, by go_num, ?_, hOr.far (p := ⟨wo.heap.size, j + 1, none⟩) hgo _, hbr.setCell (p := ⟨wo.heap.size, j + 1, none⟩) hos _⟩
                    rw [← row_step (b := false) (HT2.out)]; exact hNr.set_ (j + 1) _
                  case measure => (simp [intOf]) <;> omega
                · have q47 : ((s[j].toNat : Int) != 47) = true := (u8_bne47 _).trans (by simpa using h47)
                  have HT2 := Lib.hid (show true = af (1, 0) f s.data.toList (j + 1) from by rw [← HT.out]; simp [takes, h47])
                  clear h47
                  go_wp2
                  go_roundw
                  case rel =>
                    refine ⟨j + 1, by omega, by go_num, ?_, hOr.far (p := ⟨wo.heap.size, j + 1, none⟩) hgo _, hbr.setCell (p := ⟨wo.heap.size, j + 1, none⟩) hos _⟩
                    rw [← row_step (b := true) (HT2.out)]; exact hNr.set_ (j + 1) _
                  case measure => (simp [intOf]) <;> omega
              | false =>
                rw [hfj] at o0
                have HT := Lib.hid (show false = af (1, 0) f s.data.toList (j + 1) from by rw [HQ.out, hfj]; simp)
                clear hfj
                go_wp2
                go_roundw
                case rel =>
                  refine ⟨j + 1, by omega, by go_num, ?_, hOr.far (p := ⟨wo.heap.size, j + 1, none⟩) hgo _, hbr.setCell (p := ⟨wo.heap.size, j + 1, none⟩) hos _⟩
                  rw [← row_step (b := false) (HT.out)]; exact hNr.set_ (j + 1) _
                case measure => (simp [intOf]) <;> omega
            · have hje : j = s.size := by omega
              subst hje
              rw [end_row (Nat.le_refl _)] at hNr
              go_wp2
              go_roundw
              case rel =>
                refine ⟨k + 1, _, done ++ [(1, 0)], by omega, by go_num, rfl, ?_, hbr, ?_⟩
                · rw [rowF_snoc, HF.out]; exact hNr
                · have := HRD.out.step HS.out; rwa [List.drop_drop] at this
              case measure => (simp [intOf]) <;> omega
        · have q63 : ((p[k].toNat : Int) == 63) = false := (u8_beq_lit _ 63 (by omega)).trans (by simpa using h63)
          by_cases h92 : p[k] = 92
          · have q92 : ((p[k].toNat : Int) == 92) = true := by rw [h92]; rfl
            have hlt2 : k + 1 < p.size := by
              rcases Nat.lt_or_ge (k + 1) p.size with h | h
              · exact h
              · exfalso
                have hd : p.data.toList.drop (k + 1) = [] := List.drop_eq_nil_of_le (by rw [size_list]; exact h)
                have := HRD.out.bad (by rw [HD.out]; simp) (by rw [HD.out, hd, h92]; simp [stepP])
                rw [HL.out] at this; cases this
            have HS := Lib.hid (show stepP (p.data.toList.drop k) = some ((0, p[k + 1]), 2) from by rw [HD.out, drop_at p (k + 1) hlt2, h92]; simp [stepP])
            have hltI : (k : Int) + 1 < p.size := by omega
            clear h42 h63 h92
            go_wp2_with (at_make; refine wpList_make_full _ rfl _ _ 29 rfl wo.heap.size 4 i0 (.bool false) 1 Try.underlying29 hi hz0 hz1 .i64 .i64 _ _ (s.size + 1) rfl rfl ?m1 ?m2 ?m3 ?m4 ?m5 ?_)
            case m1 => omega
            case m2 => omega
            case m3 => rw [hz2]; omega
            case m4 => unfold maxLen; omega
            case m5 => exact Nat.le_refl _
            intro w4 hown4 hg4
            have hbm : Below w.heap.size w w4 := hbr.grown hg4 hbr.size (by intro k hk; cases hk)
            have hN : Blk w4 wo.heap.size 4 (rowCells (s.size + 1) fun _ => false) := blk_made hown4
            have hO : Blk w4 g 4 (rowCells (s.size + 1) f) := hrow.grown hg4 (by simp)
            have hgo : g ≠ wo.heap.size := by have := hrow.lt; omega
            clear hown4 hg4 hrow hbr
            go_wp2
            go_quiet (fail)
            go_wp2
            have hN0 := hN
            rw [start_row0 (A := af (0, p[k + 1]) f s.data.toList) (short_zero _ _ _ _ (by omega))] at hN0
            clear hN
            go_loopw [14] (fun i wr => ∃ j : Nat, j ≤ s.size ∧ i = .int .i64 j ∧ Blk wr wo.heap.size 4 (rowCells (s.size + 1) fun m => decide (m ≤ j) && af (0, p[k + 1]) f s.data.toList m) ∧ Blk wr g 4 (rowCells (s.size + 1) f) ∧ Below w.heap.size w wr)
              (fun i _ => s.size - (intOf i).toNat)
            case atStart => exact ⟨0, Nat.zero_le _, rfl, hN0, hO, below_drewN hbm _⟩
            case round =>
              obtain ⟨j, hj, rfl, hNr, hOr, hbr⟩ := hrel
              clear hN0 hO hbm
              by_cases hjl : j < s.size
              · have o0 := hOr.cell j
                rw [rowCells_get _ (by omega)] at o0
                have n0 := hNr.cell (j + 1)
                rw [rowCells_get _ (by omega)] at n0
                have nf := hNr.frozen (j + 1)
                have HQ := Lib.hid ((short_succ 0 p[k + 1] f s.data.toList j (by omega)).trans (by rw [bytes_at s j hjl]))
                cases hfj : f j with
                | true =>
                  rw [hfj] at o0
                  have HT := Lib.hid (show takes (0, p[k + 1]) s[j] = af (0, p[k + 1]) f s.data.toList (j + 1) from by rw [HQ.out, hfj]; simp)
                  clear hfj
                  by_cases hc : s[j] = p[k + 1]
                  · have qc : ((s[j].toNat : Int) == ((p[k + 1]).toNat : Int)) = true := by rw [hc]; simp
                    have HT2 := Lib.hid (show true = af (0, p[k + 1]) f s.data.toList (j + 1) from by rw [← HT.out, hc]; simp [takes])
                    clear hc
                    go_wp2
                    go_roundw
                    case rel =>
                      refine ⟨j + 1, by omega, by go_num, ?_, hOr.far (p := ⟨wo.heap.size, j + 1, none⟩) hgo _, hbr.setCell (p := ⟨wo.heap.size, j + 1, none⟩) hos _⟩
                      rw [← row_step (b := true) (HT2.out)]; exact hNr.set_ (j + 1) _
                    case measure => (simp [intOf]) <;> omega
                  · have qc : ((s[j].toNat : Int) == ((p[k + 1]).toNat : Int)) = false := (u8_beq _ _).trans (by simpa using hc)
                    have HT2 := Lib.hid (show false = af (0, p[k + 1]) f s.data.toList (j + 1) from by rw [← HT.out]; simp [takes, hc])
                    clear hc
                    go_wp2
                    go_roundw
                    case rel =>
                      refine ⟨j + 1, by omega, by go_num, ?_, hOr.far (p := ⟨wo.heap.size, j + 1, none⟩) hgo _, hbr.setCell (p := ⟨wo.heap.size, j + 1, none⟩) hos _⟩
                      rw [← row_step (b := false) (HT2.out)]; exact hNr.set_ (j + 1) _
                    case measure => (simp [intOf]) <;> omega
                | false =>
                  rw [hfj] at o0
                  have HT := Lib.hid (show false = af (0, p[k + 1]) f s.data.toList (j + 1) from by rw [HQ.out, hfj]; simp)
                  clear hfj
                  go_wp2
                  go_roundw
                  case rel =>
                    refine ⟨j + 1, by omega, by go_num, ?_, hOr.far (p := ⟨wo.heap.size, j + 1, none⟩) hgo _, hbr.setCell (p := ⟨wo.heap.size, j + 1, none⟩) hos _⟩
                    rw [← row_step (b := false) (HT.out)]; exact hNr.set_ (j + 1) _
                  case measure => (simp [intOf]) <;> omega
              · have hje : j = s.size := by omega
                subst hje
                rw [end_row (Nat.le_refl _)] at hNr
                go_wp2
                go_roundw
                case rel =>
                  refine ⟨k + 2, _, done ++ [(0, p[k + 1])], by omega, by go_num, rfl, ?_, hbr, ?_⟩
                  · rw [rowF_snoc, HF.out]; exact hNr
                  · have := HRD.out.step HS.out; rwa [List.drop_drop] at this
                case measure => (simp [intOf]) <;> omega
          · have q92 : ((p[k].toNat : Int) == 92) = false := (u8_beq_lit _ 92 (by omega)).trans (by simpa using h92)
            have HS := Lib.hid (show stepP (p.data.toList.drop k) = some ((0, p[k]), 1) from by rw [HD.out]; simp [stepP, h42, h63, h92])
            clear h42 h63 h92
            go_wp2_with (at_make; refine wpList_make_full _ rfl _ _ 29 rfl wo.heap.size 4 i0 (.bool false) 1 Try.underlying29 hi hz0 hz1 .i64 .i64 _ _ (s.size + 1) rfl rfl ?m1 ?m2 ?m3 ?m4 ?m5 ?_)
            case m1 => omega
            case m2 => omega
            case m3 => rw [hz2]; omega
            case m4 => unfold maxLen; omega
            case m5 => exact Nat.le_refl _
            intro w4 hown4 hg4
            have hbm : Below w.heap.size w w4 := hbr.grown hg4 hbr.size (by intro k hk; cases hk)
            have hN : Blk w4 wo.heap.size 4 (rowCells (s.size + 1) fun _ => false) := blk_made hown4
            have hO : Blk w4 g 4 (rowCells (s.size + 1) f) := hrow.grown hg4 (by simp)
            have hgo : g ≠ wo.heap.size := by have := hrow.lt; omega
            clear hown4 hg4 hrow hbr
            go_wp2
            go_quiet (fail)
            go_wp2
            have hN0 := hN
            rw [start_row0 (A := af (0, p[k]) f s.data.toList) (short_zero _ _ _ _ (by omega))] at hN0
            clear hN
            go_loopw [14] (fun i wr => ∃ j : Nat, j ≤ s.size ∧ i = .int .i64 j ∧ Blk wr wo.heap.size 4 (rowCells (s.size + 1) fun m => decide (m ≤ j) && af (0, p[k]) f s.data.toList m) ∧ Blk wr g 4 (rowCells (s.size + 1) f) ∧ Below w.heap.size w wr)
              (fun i _ => s.size - (intOf i).toNat)
            case atStart => exact ⟨0, Nat.zero_le _, rfl, hN0, hO, below_drewN hbm _⟩
            case round =>
              obtain ⟨j, hj, rfl, hNr, hOr, hbr⟩ := hrel
              clear hN0 hO hbm
              by_cases hjl : j < s.size
              · have o0 := hOr.cell j
                rw [rowCells_get _ (by omega)] at o0
                have n0 := hNr.cell (j + 1)
                rw [rowCells_get _ (by omega)] at n0
                have nf := hNr.frozen (j + 1)
                have HQ := Lib.hid ((short_succ 0 p[k] f s.data.toList j (by omega)).trans (by rw [bytes_at s j hjl]))
                cases hfj : f j with
                | true =>
                  rw [hfj] at o0
                  have HT := Lib.hid (show takes (0, p[k]) s[j] = af (0, p[k]) f s.data.toList (j + 1) from by rw [HQ.out, hfj]; simp)
                  clear hfj
                  by_cases hc : s[j] = p[k]
                  · have qc : ((s[j].toNat : Int) == ((p[k]).toNat : Int)) = true := by rw [hc]; simp
                    have HT2 := Lib.hid (show true = af (0, p[k]) f s.data.toList (j + 1) from by rw [← HT.out, hc]; simp [takes])
                    clear hc
                    go_wp2
                    go_roundw
                    case rel =>
                      refine ⟨j + 1, by omega, by go_num, ?_, hOr.far (p := ⟨wo.heap.size, j + 1, none⟩) hgo _, hbr.setCell (p := ⟨wo.heap.size, j + 1, none⟩) hos _⟩
                      rw [← row_step (b := true) (HT2.out)]; exact hNr.set_ (j + 1) _
                    case measure => (simp [intOf]) <;> omega
                  · have qc : ((s[j].toNat : Int) == ((p[k]).toNat : Int)) = false := (u8_beq _ _).trans (by simpa using hc)
                    have HT2 := Lib.hid (show false = af (0, p[k]) f s.data.toList (j + 1) from by rw [← HT.out]; simp [takes, hc])
                    clear hc
                    go_wp2
                    go_roundw
                    case rel =>
                      refine ⟨j + 1, by omega, by go_num, ?_, hOr.far (p := ⟨wo.heap.size, j + 1, none⟩) hgo _, hbr.setCell (p := ⟨wo.heap.size, j + 1, none⟩) hos _⟩
                      rw [← row_step (b := false) (HT2.out)]; exact hNr.set_ (j + 1) _
                    case measure => (simp [intOf]) <;> omega
                | false =>
                  rw [hfj] at o0
                  have HT := Lib.hid (show false = af (0, p[k]) f s.data.toList (j + 1) from by rw [HQ.out, hfj]; simp)
                  clear hfj
                  go_wp2
                  go_roundw
                  case rel =>
                    refine ⟨j + 1, by omega, by go_num, ?_, hOr.far (p := ⟨wo.heap.size, j + 1, none⟩) hgo _, hbr.setCell (p := ⟨wo.heap.size, j + 1, none⟩) hos _⟩
                    rw [← row_step (b := false) (HT.out)]; exact hNr.set_ (j + 1) _
                  case measure => (simp [intOf]) <;> omega
              · have hje : j = s.size := by omega
                subst hje
                rw [end_row (Nat.le_refl _)] at hNr
                go_wp2
                go_roundw
                case rel =>
                  refine ⟨k + 1, _, done ++ [(0, p[k])], by omega, by go_num, rfl, ?_, hbr, ?_⟩
                  · rw [rowF_snoc, HF.out]; exact hNr
                  · have := HRD.out.step HS.out; rwa [List.drop_drop] at this
                case measure => (simp [intOf]) <;> omega
    · have hkp : k = p.size := by omega
      have HE := Lib.hid (show rowF s.data.toList done = rowF s.data.toList l from by
        have h := HRD.out
        rw [hkp, drop_end] at h
        have := h.end_
        rw [HL.out] at this
        injection this with this
        rw [this])
      subst hkp
      have r0 := hrow.cell s.size
      rw [rowCells_get _ (by omega), HE.out] at r0
      go_wp2
      go_ret
      exact ⟨rfl, hbr⟩

theorem refMatch_any (p s : ByteArray) (w : World) (hp : p.size ≤ 1000000000000) (hs : s.size ≤ 1000000000000) :
    Calls Try.prog 10 #[.string p, .string s] w fun e w' => e = .returned (.bool (matchF p.data.toList s.data.toList)) ∧ Below w.heap.size w w' := by
  cases hv : validF p.data.toList with
  | false =>
    have : matchF p.data.toList s.data.toList = false := by
      unfold matchF
      unfold validF at hv
      by_cases h : 200 < p.data.toList.length
      · rw [if_pos h]
      · rw [if_neg h]
        simp at hv
        rw [hv (by simp at h; omega)]
    rw [this]; exact refMatch_no p s w hv hp
  | true =>
    have h1 := hv
    unfold validF at h1
    simp at h1
    obtain ⟨h2, h3⟩ := h1
    obtain ⟨l, hl⟩ := Option.isSome_iff_exists.1 h3
    have : matchF p.data.toList s.data.toList = rowF s.data.toList l s.size := by
      unfold matchF
      rw [if_neg (by simp; omega), hl, size_list]
    rw [this]; exact refMatch_yes p s l w hp hs hv hl
end Go.Proofs.Ytalehempjdjehaa
