/-
  acl.Parse: four words with allow or deny ahead.
-/
import Derived.Test.YtjdiaighfhljgaaDoorRuleMath
import Derived.Test.YtjdiaighfhljgaaDoorGlobMatch
import Derived.StillTailTactics
namespace Go.Proofs.YtjdiaighfhljgaaDoor
open Go.RowKit GlobMath

set_option maxHeartbeats 8000000 in
theorem parse_allow (s : ByteArray) (w : World) (hs : s.size ≤ 1000000) (a m h p : ByteArray) (hL : wordsL s = [a, m, h, p]) (hw : a.data.toList = allowB) (hmz : m.size ≤ 1000000) (hhz : h.size ≤ 1000000) (hpz : p.size ≤ 1000000) : Calls Tryd.prog 18 #[.string s] w (RulePost s w) := by
  have HI := Lib.hid infoRule
  have HW : Hid (firstF a = true) := Lib.hid (by unfold firstF; rw [hw]; rfl)
  have HA : Hid ((a.data.toList == allowB) = true) := Lib.hid (by rw [hw]; rfl)
  unfold RulePost
  have cW := fun w => words_any s w hs
  unfold WordsPost at cW
  rw [hL]
  simp only [hL] at cW
  have y1 : (a.toList == [97, 108, 108, 111, 119]) = true := by rw [Lib.toList_data, hw]; rfl
  have y2 : (a.toList == [100, 101, 110, 121]) = false := by rw [Lib.toList_data, hw]; rfl
  clear hL hw
  obtain ⟨v1, hv1⟩ : ∃ v1, w.alloc (.cells #[.bool false, .string ⟨#[]⟩, .string ⟨#[]⟩, .string ⟨#[]⟩] 50) = v1 := ⟨_, rfl⟩
  have hq : v1.heap[w.heap.size]? = some (.cells #[.bool false, .string ⟨#[]⟩, .string ⟨#[]⟩, .string ⟨#[]⟩] 50 (0, 0)) := by rw [← hv1]; exact heap_alloc_new w _
  have hs1 : Spares nowhere w v1 := by rw [← hv1]; exact (Spares.refl _ w).alloc _
  have hz1 : v1.heap.size = w.heap.size + 1 := by rw [← hv1]; simp
  have HV1 := Lib.hid hv1
  clear hv1
  go_enter Tryd.func18, Tryd.ntmps18
  go_wp2_with fail
  change Calls _ _ _ (w.alloc (.cells #[.bool false, .string ⟨#[]⟩, .string ⟨#[]⟩, .string ⟨#[]⟩] 50)) _
  rw [HV1.out]
  refine (cW v1).mono ?_
  rintro e v2 ⟨v, rfl, hr, hb⟩
  have HR2 : Hid (v2.heap[w.heap.size]? = some (.cells #[.bool false, .string ⟨#[]⟩, .string ⟨#[]⟩, .string ⟨#[]⟩] 50 (0, 0))) := Lib.hid ((hb.block _ (by omega)).trans hq)
  have HS2 : Hid (Spares nowhere w v2) := Lib.hid (hs1.trans' (Below.spares (F := nowhere) hb (fun k hk => .inr hk)) (fun _ h => by cases h))
  rcases hr.shape with ⟨_, hl0⟩ | ⟨g, c, rfl, _, hg, hc, hcells⟩
  · cases hl0
  · have c0 : v2.cell? ⟨g, 0, none⟩ = some (.string a) := hcells 0 (Nat.zero_lt_succ _)
    have HC0 := Lib.hid c0
    have HC1 : Hid (v2.cell? ⟨g, 1, none⟩ = some (.string m)) := Lib.hid (hcells 1 (by simp))
    have HC2 : Hid (v2.cell? ⟨g, 2, none⟩ = some (.string h)) := Lib.hid (hcells 2 (by simp))
    have HC3 : Hid (v2.cell? ⟨g, 3, none⟩ = some (.string p)) := Lib.hid (hcells 3 (by simp))
    have HG := Lib.hid hg
    change 4 ≤ c at hc
    clear hr hcells hq hs1 hz1 hb cW hg
    go_wp2
    go_loopw [28] (fun i wr => ∃ k : Nat, k ≤ 3 ∧ i = .int .i64 k ∧ Hid ((1 ≤ k → validF m.data.toList = true) ∧ (2 ≤ k → validF h.data.toList = true) ∧ (3 ≤ k → validF p.data.toList = true)) ∧ Hid (Spares nowhere v2 wr)) (fun i _ => 3 - (intOf i).toNat)
    case atStart => exact ⟨0, by omega, rfl, Lib.hid ⟨fun h => absurd h (by omega), fun h => absurd h (by omega), fun h => absurd h (by omega)⟩, Lib.hid (Spares.refl _ _)⟩
    case round =>
      obtain ⟨k, hk, rfl, HU, HS⟩ := hrel
      rcases (show k = 0 ∨ k = 1 ∨ k = 2 ∨ k = 3 by omega) with rfl | rfl | rfl | rfl
      · have ck : wr.cell? ⟨g, 1, none⟩ = some (.string m) := (HS.out.cell (p := ⟨g, 1, none⟩) HG.out (fun h => h)).trans HC1.out
        cases hv : validF m.data.toList with
        | true =>
          have HF := Lib.hid hv
          clear hv
          go_wp2_with fail
          refine (valid_any m wr (by omega)).mono ?_
          rintro e w3 ⟨rfl, hb3⟩
          rw [show (if validF m.data.toList = true then (0 : Int) else 120) = 0 from by rw [if_pos HF.out]]
          have HS3 := Lib.hid (HS.out.trans' (Below.spares (F := nowhere) hb3 (fun k hk => .inr hk)) (fun _ h => by cases h))
          clear hb3
          go_wp2
          go_roundw
          case rel => exact ⟨1, by omega, by go_num, Lib.hid ⟨fun _ => by first | exact HF.out | trivial, fun h => absurd h (by omega), fun h => absurd h (by omega)⟩, HS3⟩
          case measure => simp [intOf]
        | false =>
          have HF := Lib.hid hv
          have HV := Lib.hid (ruleL_bad (a := a) (m := m) (h := h) (p := p) (by rw [hv]; rfl))
          clear hv
          go_wp2_with fail
          refine (valid_any m wr (by omega)).mono ?_
          rintro e w3 ⟨rfl, hb3⟩
          rw [show (if validF m.data.toList = true then (0 : Int) else 120) = 120 from by rw [if_neg (by rw [HF.out]; simp)]]
          have HS3 := Lib.hid (HS.out.trans' (Below.spares (F := nowhere) hb3 (fun k hk => .inr hk)) (fun _ h => by cases h))
          have hst := rule_stored (a' := .bool false) (b' := .string ⟨#[]⟩) (c' := .string ⟨#[]⟩) (d' := .string ⟨#[]⟩) (HS3.out.heap HR2.out (fun h => h))
          have HT := Lib.hid hst.1
          have HQ := Lib.hid hst.2
          clear hst hb3
          go_wp2_with ((with_reducible show wpList _ _ _ (⟨none, .store 50 _ _, _, _, _, _⟩ :: _) _ _); refine wpList_store_mid rfl 50 (.tmp 2) (.tmp 35) rfl w.heap.size 0 #[.bool false, .string ⟨#[]⟩, .string ⟨#[]⟩, .string ⟨#[]⟩] rfl rfl HT.out HI.out (onesRule _ _ _ _) ?_)
          exact bodyPost_ret (v := .tuple #[.agg #[.bool false, .string ⟨#[]⟩, .string ⟨#[]⟩, .string ⟨#[]⟩], .int .i64 122]) (results_cell_two rfl _ _ w.heap.size 50 #[.bool false, .string ⟨#[]⟩, .string ⟨#[]⟩, .string ⟨#[]⟩] (0, 0) _ (.int .i64 122) rfl rfl HQ.out Tryd.underlying50 (by rfl) HI.out) rfl ⟨by rw [HV.out]; rfl, (HS2.out.trans HS3.out).trans' (F' := fun b => b = w.heap.size) (spares_setCells _ _ _ (Spares.refl _ _)) (fun b hb => .inr (by omega))⟩
      · have ck : wr.cell? ⟨g, 2, none⟩ = some (.string h) := (HS.out.cell (p := ⟨g, 2, none⟩) HG.out (fun h => h)).trans HC2.out
        cases hv : validF h.data.toList with
        | true =>
          have HF := Lib.hid hv
          clear hv
          go_wp2_with fail
          refine (valid_any h wr (by omega)).mono ?_
          rintro e w3 ⟨rfl, hb3⟩
          rw [show (if validF h.data.toList = true then (0 : Int) else 120) = 0 from by rw [if_pos HF.out]]
          have HS3 := Lib.hid (HS.out.trans' (Below.spares (F := nowhere) hb3 (fun k hk => .inr hk)) (fun _ h => by cases h))
          clear hb3
          go_wp2
          go_roundw
          case rel => exact ⟨2, by omega, by go_num, Lib.hid ⟨fun _ => HU.out.1 (by omega), fun _ => by first | exact HF.out | trivial, fun h => absurd h (by omega)⟩, HS3⟩
          case measure => simp [intOf]
        | false =>
          have HF := Lib.hid hv
          have HV := Lib.hid (ruleL_bad (a := a) (m := m) (h := h) (p := p) (by rw [hv]; simp))
          clear hv
          go_wp2_with fail
          refine (valid_any h wr (by omega)).mono ?_
          rintro e w3 ⟨rfl, hb3⟩
          rw [show (if validF h.data.toList = true then (0 : Int) else 120) = 120 from by rw [if_neg (by rw [HF.out]; simp)]]
          have HS3 := Lib.hid (HS.out.trans' (Below.spares (F := nowhere) hb3 (fun k hk => .inr hk)) (fun _ h => by cases h))
          have hst := rule_stored (a' := .bool false) (b' := .string ⟨#[]⟩) (c' := .string ⟨#[]⟩) (d' := .string ⟨#[]⟩) (HS3.out.heap HR2.out (fun h => h))
          have HT := Lib.hid hst.1
          have HQ := Lib.hid hst.2
          clear hst hb3
          go_wp2_with ((with_reducible show wpList _ _ _ (⟨none, .store 50 _ _, _, _, _, _⟩ :: _) _ _); refine wpList_store_mid rfl 50 (.tmp 2) (.tmp 35) rfl w.heap.size 0 #[.bool false, .string ⟨#[]⟩, .string ⟨#[]⟩, .string ⟨#[]⟩] rfl rfl HT.out HI.out (onesRule _ _ _ _) ?_)
          exact bodyPost_ret (v := .tuple #[.agg #[.bool false, .string ⟨#[]⟩, .string ⟨#[]⟩, .string ⟨#[]⟩], .int .i64 122]) (results_cell_two rfl _ _ w.heap.size 50 #[.bool false, .string ⟨#[]⟩, .string ⟨#[]⟩, .string ⟨#[]⟩] (0, 0) _ (.int .i64 122) rfl rfl HQ.out Tryd.underlying50 (by rfl) HI.out) rfl ⟨by rw [HV.out]; rfl, (HS2.out.trans HS3.out).trans' (F' := fun b => b = w.heap.size) (spares_setCells _ _ _ (Spares.refl _ _)) (fun b hb => .inr (by omega))⟩
      · have ck : wr.cell? ⟨g, 3, none⟩ = some (.string p) := (HS.out.cell (p := ⟨g, 3, none⟩) HG.out (fun h => h)).trans HC3.out
        cases hv : validF p.data.toList with
        | true =>
          have HF := Lib.hid hv
          clear hv
          go_wp2_with fail
          refine (valid_any p wr (by omega)).mono ?_
          rintro e w3 ⟨rfl, hb3⟩
          rw [show (if validF p.data.toList = true then (0 : Int) else 120) = 0 from by rw [if_pos HF.out]]
          have HS3 := Lib.hid (HS.out.trans' (Below.spares (F := nowhere) hb3 (fun k hk => .inr hk)) (fun _ h => by cases h))
          clear hb3
          go_wp2
          go_roundw
          case rel => exact ⟨3, by omega, by go_num, Lib.hid ⟨fun _ => HU.out.1 (by omega), fun _ => HU.out.2.1 (by omega), fun _ => by first | exact HF.out | trivial⟩, HS3⟩
          case measure => simp [intOf]
        | false =>
          have HF := Lib.hid hv
          have HV := Lib.hid (ruleL_bad (a := a) (m := m) (h := h) (p := p) (by rw [hv]; simp))
          clear hv
          go_wp2_with fail
          refine (valid_any p wr (by omega)).mono ?_
          rintro e w3 ⟨rfl, hb3⟩
          rw [show (if validF p.data.toList = true then (0 : Int) else 120) = 120 from by rw [if_neg (by rw [HF.out]; simp)]]
          have HS3 := Lib.hid (HS.out.trans' (Below.spares (F := nowhere) hb3 (fun k hk => .inr hk)) (fun _ h => by cases h))
          have hst := rule_stored (a' := .bool false) (b' := .string ⟨#[]⟩) (c' := .string ⟨#[]⟩) (d' := .string ⟨#[]⟩) (HS3.out.heap HR2.out (fun h => h))
          have HT := Lib.hid hst.1
          have HQ := Lib.hid hst.2
          clear hst hb3
          go_wp2_with ((with_reducible show wpList _ _ _ (⟨none, .store 50 _ _, _, _, _, _⟩ :: _) _ _); refine wpList_store_mid rfl 50 (.tmp 2) (.tmp 35) rfl w.heap.size 0 #[.bool false, .string ⟨#[]⟩, .string ⟨#[]⟩, .string ⟨#[]⟩] rfl rfl HT.out HI.out (onesRule _ _ _ _) ?_)
          exact bodyPost_ret (v := .tuple #[.agg #[.bool false, .string ⟨#[]⟩, .string ⟨#[]⟩, .string ⟨#[]⟩], .int .i64 122]) (results_cell_two rfl _ _ w.heap.size 50 #[.bool false, .string ⟨#[]⟩, .string ⟨#[]⟩, .string ⟨#[]⟩] (0, 0) _ (.int .i64 122) rfl rfl HQ.out Tryd.underlying50 (by rfl) HI.out) rfl ⟨by rw [HV.out]; rfl, (HS2.out.trans HS3.out).trans' (F' := fun b => b = w.heap.size) (spares_setCells _ _ _ (Spares.refl _ _)) (fun b hb => .inr (by omega))⟩
      · have HV := Lib.hid (ruleL_good HW.out (HU.out.1 (by omega)) (HU.out.2.1 (by omega)) (HU.out.2.2 (by omega)))
        rw [HA.out] at HV
        have e0 : wr.cell? ⟨g, 0, none⟩ = some (.string a) := (HS.out.cell (p := ⟨g, 0, none⟩) HG.out (fun h => h)).trans HC0.out
        have e1 : wr.cell? ⟨g, 1, none⟩ = some (.string m) := (HS.out.cell (p := ⟨g, 1, none⟩) HG.out (fun h => h)).trans HC1.out
        have e2 : wr.cell? ⟨g, 2, none⟩ = some (.string h) := (HS.out.cell (p := ⟨g, 2, none⟩) HG.out (fun h => h)).trans HC2.out
        have e3 : wr.cell? ⟨g, 3, none⟩ = some (.string p) := (HS.out.cell (p := ⟨g, 3, none⟩) HG.out (fun h => h)).trans HC3.out
        have hst := rule_stored (v := wr.drew) (a' := .bool true) (b' := .string m) (c' := .string h) (d' := .string p) (HS.out.drew.heap HR2.out (fun h => h))
        have HT := Lib.hid hst.1
        have HQ := Lib.hid hst.2
        have HS9 := Lib.hid HS.out.drew
        clear hst c0
        go_wp2
        go_still_tail 14, (by kernel_rfl)
        change wpList _ _ _ _ _ wr.drew
        go_wp2_with ((with_reducible show wpList _ _ _ (⟨none, .store 50 _ _, _, _, _, _⟩ :: _) _ _); refine wpList_store_mid rfl 50 (.tmp 2) (.tmp 50) rfl w.heap.size 0 #[.bool true, .string m, .string h, .string p] rfl rfl HT.out HI.out (onesRule _ _ _ _) ?_)
        exact bodyPost_ret (v := .tuple #[.agg #[.bool true, .string m, .string h, .string p], .int .i64 0]) (results_cell_two rfl _ _ w.heap.size 50 #[.bool true, .string m, .string h, .string p] (0, 0) _ (.int .i64 0) rfl rfl HQ.out Tryd.underlying50 (by rfl) HI.out) rfl ⟨by rw [HV.out]; rfl, (HS2.out.trans HS9.out).trans' (F' := fun b => b = w.heap.size) (spares_setCells _ _ _ (Spares.refl _ _)) (fun b hb => .inr (by omega))⟩
set_option maxHeartbeats 8000000 in
theorem parse_deny (s : ByteArray) (w : World) (hs : s.size ≤ 1000000) (a m h p : ByteArray) (hL : wordsL s = [a, m, h, p]) (hw : a.data.toList = denyB) (hmz : m.size ≤ 1000000) (hhz : h.size ≤ 1000000) (hpz : p.size ≤ 1000000) : Calls Tryd.prog 18 #[.string s] w (RulePost s w) := by
  have HI := Lib.hid infoRule
  have HW : Hid (firstF a = true) := Lib.hid (by unfold firstF; rw [hw]; rfl)
  have HA : Hid ((a.data.toList == allowB) = false) := Lib.hid (by rw [hw]; rfl)
  unfold RulePost
  have cW := fun w => words_any s w hs
  unfold WordsPost at cW
  rw [hL]
  simp only [hL] at cW
  have y1 : (a.toList == [97, 108, 108, 111, 119]) = false := by rw [Lib.toList_data, hw]; rfl
  have y2 : (a.toList == [100, 101, 110, 121]) = true := by rw [Lib.toList_data, hw]; rfl
  clear hL hw
  obtain ⟨v1, hv1⟩ : ∃ v1, w.alloc (.cells #[.bool false, .string ⟨#[]⟩, .string ⟨#[]⟩, .string ⟨#[]⟩] 50) = v1 := ⟨_, rfl⟩
  have hq : v1.heap[w.heap.size]? = some (.cells #[.bool false, .string ⟨#[]⟩, .string ⟨#[]⟩, .string ⟨#[]⟩] 50 (0, 0)) := by rw [← hv1]; exact heap_alloc_new w _
  have hs1 : Spares nowhere w v1 := by rw [← hv1]; exact (Spares.refl _ w).alloc _
  have hz1 : v1.heap.size = w.heap.size + 1 := by rw [← hv1]; simp
  have HV1 := Lib.hid hv1
  clear hv1
  go_enter Tryd.func18, Tryd.ntmps18
  go_wp2_with fail
  change Calls _ _ _ (w.alloc (.cells #[.bool false, .string ⟨#[]⟩, .string ⟨#[]⟩, .string ⟨#[]⟩] 50)) _
  rw [HV1.out]
  refine (cW v1).mono ?_
  rintro e v2 ⟨v, rfl, hr, hb⟩
  have HR2 : Hid (v2.heap[w.heap.size]? = some (.cells #[.bool false, .string ⟨#[]⟩, .string ⟨#[]⟩, .string ⟨#[]⟩] 50 (0, 0))) := Lib.hid ((hb.block _ (by omega)).trans hq)
  have HS2 : Hid (Spares nowhere w v2) := Lib.hid (hs1.trans' (Below.spares (F := nowhere) hb (fun k hk => .inr hk)) (fun _ h => by cases h))
  rcases hr.shape with ⟨_, hl0⟩ | ⟨g, c, rfl, _, hg, hc, hcells⟩
  · cases hl0
  · have c0 : v2.cell? ⟨g, 0, none⟩ = some (.string a) := hcells 0 (Nat.zero_lt_succ _)
    have HC0 := Lib.hid c0
    have HC1 : Hid (v2.cell? ⟨g, 1, none⟩ = some (.string m)) := Lib.hid (hcells 1 (by simp))
    have HC2 : Hid (v2.cell? ⟨g, 2, none⟩ = some (.string h)) := Lib.hid (hcells 2 (by simp))
    have HC3 : Hid (v2.cell? ⟨g, 3, none⟩ = some (.string p)) := Lib.hid (hcells 3 (by simp))
    have HG := Lib.hid hg
    change 4 ≤ c at hc
    clear hr hcells hq hs1 hz1 hb cW hg
    go_wp2
    go_loopw [28] (fun i wr => ∃ k : Nat, k ≤ 3 ∧ i = .int .i64 k ∧ Hid ((1 ≤ k → validF m.data.toList = true) ∧ (2 ≤ k → validF h.data.toList = true) ∧ (3 ≤ k → validF p.data.toList = true)) ∧ Hid (Spares nowhere v2 wr)) (fun i _ => 3 - (intOf i).toNat)
    case atStart => exact ⟨0, by omega, rfl, Lib.hid ⟨fun h => absurd h (by omega), fun h => absurd h (by omega), fun h => absurd h (by omega)⟩, Lib.hid (Spares.refl _ _)⟩
    case round =>
      obtain ⟨k, hk, rfl, HU, HS⟩ := hrel
      rcases (show k = 0 ∨ k = 1 ∨ k = 2 ∨ k = 3 by omega) with rfl | rfl | rfl | rfl
      · have ck : wr.cell? ⟨g, 1, none⟩ = some (.string m) := (HS.out.cell (p := ⟨g, 1, none⟩) HG.out (fun h => h)).trans HC1.out
        cases hv : validF m.data.toList with
        | true =>
          have HF := Lib.hid hv
          clear hv
          go_wp2_with fail
          refine (valid_any m wr (by omega)).mono ?_
          rintro e w3 ⟨rfl, hb3⟩
          rw [show (if validF m.data.toList = true then (0 : Int) else 120) = 0 from by rw [if_pos HF.out]]
          have HS3 := Lib.hid (HS.out.trans' (Below.spares (F := nowhere) hb3 (fun k hk => .inr hk)) (fun _ h => by cases h))
          clear hb3
          go_wp2
          go_roundw
          case rel => exact ⟨1, by omega, by go_num, Lib.hid ⟨fun _ => by first | exact HF.out | trivial, fun h => absurd h (by omega), fun h => absurd h (by omega)⟩, HS3⟩
          case measure => simp [intOf]
        | false =>
          have HF := Lib.hid hv
          have HV := Lib.hid (ruleL_bad (a := a) (m := m) (h := h) (p := p) (by rw [hv]; rfl))
          clear hv
          go_wp2_with fail
          refine (valid_any m wr (by omega)).mono ?_
          rintro e w3 ⟨rfl, hb3⟩
          rw [show (if validF m.data.toList = true then (0 : Int) else 120) = 120 from by rw [if_neg (by rw [HF.out]; simp)]]
          have HS3 := Lib.hid (HS.out.trans' (Below.spares (F := nowhere) hb3 (fun k hk => .inr hk)) (fun _ h => by cases h))
          have hst := rule_stored (a' := .bool false) (b' := .string ⟨#[]⟩) (c' := .string ⟨#[]⟩) (d' := .string ⟨#[]⟩) (HS3.out.heap HR2.out (fun h => h))
          have HT := Lib.hid hst.1
          have HQ := Lib.hid hst.2
          clear hst hb3
          go_wp2_with ((with_reducible show wpList _ _ _ (⟨none, .store 50 _ _, _, _, _, _⟩ :: _) _ _); refine wpList_store_mid rfl 50 (.tmp 2) (.tmp 35) rfl w.heap.size 0 #[.bool false, .string ⟨#[]⟩, .string ⟨#[]⟩, .string ⟨#[]⟩] rfl rfl HT.out HI.out (onesRule _ _ _ _) ?_)
          exact bodyPost_ret (v := .tuple #[.agg #[.bool false, .string ⟨#[]⟩, .string ⟨#[]⟩, .string ⟨#[]⟩], .int .i64 122]) (results_cell_two rfl _ _ w.heap.size 50 #[.bool false, .string ⟨#[]⟩, .string ⟨#[]⟩, .string ⟨#[]⟩] (0, 0) _ (.int .i64 122) rfl rfl HQ.out Tryd.underlying50 (by rfl) HI.out) rfl ⟨by rw [HV.out]; rfl, (HS2.out.trans HS3.out).trans' (F' := fun b => b = w.heap.size) (spares_setCells _ _ _ (Spares.refl _ _)) (fun b hb => .inr (by omega))⟩
      · have ck : wr.cell? ⟨g, 2, none⟩ = some (.string h) := (HS.out.cell (p := ⟨g, 2, none⟩) HG.out (fun h => h)).trans HC2.out
        cases hv : validF h.data.toList with
        | true =>
          have HF := Lib.hid hv
          clear hv
          go_wp2_with fail
          refine (valid_any h wr (by omega)).mono ?_
          rintro e w3 ⟨rfl, hb3⟩
          rw [show (if validF h.data.toList = true then (0 : Int) else 120) = 0 from by rw [if_pos HF.out]]
          have HS3 := Lib.hid (HS.out.trans' (Below.spares (F := nowhere) hb3 (fun k hk => .inr hk)) (fun _ h => by cases h))
          clear hb3
          go_wp2
          go_roundw
          case rel => exact ⟨2, by omega, by go_num, Lib.hid ⟨fun _ => HU.out.1 (by omega), fun _ => by first | exact HF.out | trivial, fun h => absurd h (by omega)⟩, HS3⟩
          case measure => simp [intOf]
        | false =>
          have HF := Lib.hid hv
          have HV := Lib.hid (ruleL_bad (a := a) (m := m) (h := h) (p := p) (by rw [hv]; simp))
          clear hv
          go_wp2_with fail
          refine (valid_any h wr (by omega)).mono ?_
          rintro e w3 ⟨rfl, hb3⟩
          rw [show (if validF h.data.toList = true then (0 : Int) else 120) = 120 from by rw [if_neg (by rw [HF.out]; simp)]]
          have HS3 := Lib.hid (HS.out.trans' (Below.spares (F := nowhere) hb3 (fun k hk => .inr hk)) (fun _ h => by cases h))
          have hst := rule_stored (a' := .bool false) (b' := .string ⟨#[]⟩) (c' := .string ⟨#[]⟩) (d' := .string ⟨#[]⟩) (HS3.out.heap HR2.out (fun h => h))
          have HT := Lib.hid hst.1
          have HQ := Lib.hid hst.2
          clear hst hb3
          go_wp2_with ((with_reducible show wpList _ _ _ (⟨none, .store 50 _ _, _, _, _, _⟩ :: _) _ _); refine wpList_store_mid rfl 50 (.tmp 2) (.tmp 35) rfl w.heap.size 0 #[.bool false, .string ⟨#[]⟩, .string ⟨#[]⟩, .string ⟨#[]⟩] rfl rfl HT.out HI.out (onesRule _ _ _ _) ?_)
          exact bodyPost_ret (v := .tuple #[.agg #[.bool false, .string ⟨#[]⟩, .string ⟨#[]⟩, .string ⟨#[]⟩], .int .i64 122]) (results_cell_two rfl _ _ w.heap.size 50 #[.bool false, .string ⟨#[]⟩, .string ⟨#[]⟩, .string ⟨#[]⟩] (0, 0) _ (.int .i64 122) rfl rfl HQ.out Tryd.underlying50 (by rfl) HI.out) rfl ⟨by rw [HV.out]; rfl, (HS2.out.trans HS3.out).trans' (F' := fun b => b = w.heap.size) (spares_setCells _ _ _ (Spares.refl _ _)) (fun b hb => .inr (by omega))⟩
      · have ck : wr.cell? ⟨g, 3, none⟩ = some (.string p) := (HS.out.cell (p := ⟨g, 3, none⟩) HG.out (fun h => h)).trans HC3.out
        cases hv : validF p.data.toList with
        | true =>
          have HF := Lib.hid hv
          clear hv
          go_wp2_with fail
          refine (valid_any p wr (by omega)).mono ?_
          rintro e w3 ⟨rfl, hb3⟩
          rw [show (if validF p.data.toList = true then (0 : Int) else 120) = 0 from by rw [if_pos HF.out]]
          have HS3 := Lib.hid (HS.out.trans' (Below.spares (F := nowhere) hb3 (fun k hk => .inr hk)) (fun _ h => by cases h))
          clear hb3
          go_wp2
          go_roundw
          case rel => exact ⟨3, by omega, by go_num, Lib.hid ⟨fun _ => HU.out.1 (by omega), fun _ => HU.out.2.1 (by omega), fun _ => by first | exact HF.out | trivial⟩, HS3⟩
          case measure => simp [intOf]
        | false =>
          have HF := Lib.hid hv
          have HV := Lib.hid (ruleL_bad (a := a) (m := m) (h := h) (p := p) (by rw [hv]; simp))
          clear hv
          go_wp2_with fail
          refine (valid_any p wr (by omega)).mono ?_
          rintro e w3 ⟨rfl, hb3⟩
          rw [show (if validF p.data.toList = true then (0 : Int) else 120) = 120 from by rw [if_neg (by rw [HF.out]; simp)]]
          have HS3 := Lib.hid (HS.out.trans' (Below.spares (F := nowhere) hb3 (fun k hk => .inr hk)) (fun _ h => by cases h))
          have hst := rule_stored (a' := .bool false) (b' := .string ⟨#[]⟩) (c' := .string ⟨#[]⟩) (d' := .string ⟨#[]⟩) (HS3.out.heap HR2.out (fun h => h))
          have HT := Lib.hid hst.1
          have HQ := Lib.hid hst.2
          clear hst hb3
          go_wp2_with ((with_reducible show wpList _ _ _ (⟨none, .store 50 _ _, _, _, _, _⟩ :: _) _ _); refine wpList_store_mid rfl 50 (.tmp 2) (.tmp 35) rfl w.heap.size 0 #[.bool false, .string ⟨#[]⟩, .string ⟨#[]⟩, .string ⟨#[]⟩] rfl rfl HT.out HI.out (onesRule _ _ _ _) ?_)
          exact bodyPost_ret (v := .tuple #[.agg #[.bool false, .string ⟨#[]⟩, .string ⟨#[]⟩, .string ⟨#[]⟩], .int .i64 122]) (results_cell_two rfl _ _ w.heap.size 50 #[.bool false, .string ⟨#[]⟩, .string ⟨#[]⟩, .string ⟨#[]⟩] (0, 0) _ (.int .i64 122) rfl rfl HQ.out Tryd.underlying50 (by rfl) HI.out) rfl ⟨by rw [HV.out]; rfl, (HS2.out.trans HS3.out).trans' (F' := fun b => b = w.heap.size) (spares_setCells _ _ _ (Spares.refl _ _)) (fun b hb => .inr (by omega))⟩
      · have HV := Lib.hid (ruleL_good HW.out (HU.out.1 (by omega)) (HU.out.2.1 (by omega)) (HU.out.2.2 (by omega)))
        rw [HA.out] at HV
        have e0 : wr.cell? ⟨g, 0, none⟩ = some (.string a) := (HS.out.cell (p := ⟨g, 0, none⟩) HG.out (fun h => h)).trans HC0.out
        have e1 : wr.cell? ⟨g, 1, none⟩ = some (.string m) := (HS.out.cell (p := ⟨g, 1, none⟩) HG.out (fun h => h)).trans HC1.out
        have e2 : wr.cell? ⟨g, 2, none⟩ = some (.string h) := (HS.out.cell (p := ⟨g, 2, none⟩) HG.out (fun h => h)).trans HC2.out
        have e3 : wr.cell? ⟨g, 3, none⟩ = some (.string p) := (HS.out.cell (p := ⟨g, 3, none⟩) HG.out (fun h => h)).trans HC3.out
        have hst := rule_stored (v := wr.drew) (a' := .bool false) (b' := .string m) (c' := .string h) (d' := .string p) (HS.out.drew.heap HR2.out (fun h => h))
        have HT := Lib.hid hst.1
        have HQ := Lib.hid hst.2
        have HS9 := Lib.hid HS.out.drew
        clear hst c0
        go_wp2
        go_still_tail 14, (by kernel_rfl)
        change wpList _ _ _ _ _ wr.drew
        go_wp2_with ((with_reducible show wpList _ _ _ (⟨none, .store 50 _ _, _, _, _, _⟩ :: _) _ _); refine wpList_store_mid rfl 50 (.tmp 2) (.tmp 50) rfl w.heap.size 0 #[.bool false, .string m, .string h, .string p] rfl rfl HT.out HI.out (onesRule _ _ _ _) ?_)
        exact bodyPost_ret (v := .tuple #[.agg #[.bool false, .string m, .string h, .string p], .int .i64 0]) (results_cell_two rfl _ _ w.heap.size 50 #[.bool false, .string m, .string h, .string p] (0, 0) _ (.int .i64 0) rfl rfl HQ.out Tryd.underlying50 (by rfl) HI.out) rfl ⟨by rw [HV.out]; rfl, (HS2.out.trans HS9.out).trans' (F' := fun b => b = w.heap.size) (spares_setCells _ _ _ (Spares.refl _ _)) (fun b hb => .inr (by omega))⟩
end Go.Proofs.YtjdiaighfhljgaaDoor
