/-
  acl.Parse: four words, the first of them neither allow nor deny, are no rule.
-/
import Derived.Test.YtjdiaighfhljgaaDoorRuleMath
namespace Go.Proofs.YtjdiaighfhljgaaDoor
open Go.RowKit GlobMath

set_option maxHeartbeats 4000000 in
theorem parse_word (s : ByteArray) (w : World) (hs : s.size ≤ 1000000) (a m h p : ByteArray) (hL : wordsL s = [a, m, h, p]) (hw : firstF a = false) : Calls Tryd.prog 18 #[.string s] w (RulePost s w) := by
  have HV := Lib.hid (ruleL_word (m := m) (h := h) (p := p) hw)
  have HI := Lib.hid infoRule
  unfold RulePost
  have cW := fun w => words_any s w hs
  unfold WordsPost at cW
  rw [hL]
  simp only [hL] at cW
  have y1 : (a.toList == [97, 108, 108, 111, 119]) = false := by
    rw [Lib.toList_data]; unfold firstF at hw; rw [Bool.or_eq_false_iff] at hw; exact hw.1
  have y2 : (a.toList == [100, 101, 110, 121]) = false := by
    rw [Lib.toList_data]; unfold firstF at hw; rw [Bool.or_eq_false_iff] at hw; exact hw.2
  clear hL hw
  obtain ⟨v1, hv1⟩ : ∃ v1, w.alloc (.cells #[.bool false, .string ⟨#[]⟩, .string ⟨#[]⟩, .string ⟨#[]⟩] 50) = v1 := ⟨_, rfl⟩
  have hq : v1.heap[w.heap.size]? = some (.cells #[.bool false, .string ⟨#[]⟩, .string ⟨#[]⟩, .string ⟨#[]⟩] 50 (0, 0)) := by rw [← hv1]; exact heap_alloc_new w _
  have hs1 : Spares nowhere w v1 := by rw [← hv1]; exact (Spares.refl _ w).alloc _
  have hz1 : v1.heap.size = w.heap.size + 1 := by rw [← hv1]; simp
  have HV1 := Lib.hid hv1
  clear hv1
  go_enter Tryd.func18, Tryd.ntmps18
  go_wp2_with fail
  change Calls _ _ _ (w.alloc (.cells #[.bool false, .string ⟨#[]⟩, .string ⟨#[]⟩, .string ⟨#[]⟩] 50)) _
  rw [HV1.out]
  refine (cW v1).mono ?_
  rintro e v2 ⟨v, rfl, hr, hb⟩
  have hq2 : v2.heap[w.heap.size]? = some (.cells #[.bool false, .string ⟨#[]⟩, .string ⟨#[]⟩, .string ⟨#[]⟩] 50 (0, 0)) := (hb.block _ (by omega)).trans hq
  have hs2 : Spares nowhere w v2 := hs1.trans' (Below.spares (F := nowhere) hb (fun k hk => .inr hk)) (fun _ h => by cases h)
  have hst := rule_stored (a' := .bool false) (b' := .string ⟨#[]⟩) (c' := .string ⟨#[]⟩) (d' := .string ⟨#[]⟩) hq2
  have HT := Lib.hid hst.1
  have HQ := Lib.hid hst.2
  have HS := Lib.hid hs2
  rcases hr.shape with ⟨_, hl0⟩ | ⟨g, c, rfl, _, _, hc, hcells⟩
  · cases hl0
  · have c0 : v2.cell? ⟨g, 0, none⟩ = some (.string a) := hcells 0 (Nat.zero_lt_succ _)
    clear hr hcells hq hs1 hz1 hb hq2 hs2 hst cW
    change 4 ≤ c at hc
    go_wp2_with ((with_reducible show wpList _ _ _ (⟨none, .store 50 _ _, _, _, _, _⟩ :: _) _ _); refine wpList_store_mid rfl 50 (.tmp 2) (.tmp 24) rfl w.heap.size 0 #[.bool false, .string ⟨#[]⟩, .string ⟨#[]⟩, .string ⟨#[]⟩] rfl rfl HT.out HI.out (onesRule _ _ _ _) ?_)
    exact bodyPost_ret (v := .tuple #[.agg #[.bool false, .string ⟨#[]⟩, .string ⟨#[]⟩, .string ⟨#[]⟩], .int .i64 122]) (results_cell_two rfl _ _ w.heap.size 50 #[.bool false, .string ⟨#[]⟩, .string ⟨#[]⟩, .string ⟨#[]⟩] (0, 0) _ (.int .i64 122) rfl rfl HQ.out Tryd.underlying50 (by rfl) HI.out) rfl ⟨by rw [HV.out]; rfl, HS.out.trans' (F' := fun b => b = w.heap.size) (spares_setCells _ _ _ (Spares.refl _ _)) (fun b hb => .inr (by omega))⟩
end Go.Proofs.YtjdiaighfhljgaaDoor
