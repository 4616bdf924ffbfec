/-
  acl.Parse: a text that isn't of four words is no rule.
-/
import Derived.Test.YtjdiaighfhljgaaDoorRuleMath
namespace Go.Proofs.YtjdiaighfhljgaaDoor
open Go.RowKit GlobMath

set_option maxHeartbeats 4000000 in
theorem parse_count (s : ByteArray) (w : World) (hs : s.size ≤ 1000000) (h4 : (wordsL s).length ≠ 4) : Calls Tryd.prog 18 #[.string s] w (RulePost s w) := by
  have HV := Lib.hid (ruleL_count h4)
  have HI := Lib.hid infoRule
  obtain ⟨L, hL⟩ : ∃ L, wordsL s = L := ⟨_, rfl⟩
  unfold RulePost
  have cW := fun w => words_any s w hs
  unfold WordsPost at cW
  rw [hL] at HV ⊢ h4
  simp only [hL] at cW
  clear hL
  obtain ⟨v1, hv1⟩ : ∃ v1, w.alloc (.cells #[.bool false, .string ⟨#[]⟩, .string ⟨#[]⟩, .string ⟨#[]⟩] 50) = v1 := ⟨_, rfl⟩
  have hq : v1.heap[w.heap.size]? = some (.cells #[.bool false, .string ⟨#[]⟩, .string ⟨#[]⟩, .string ⟨#[]⟩] 50 (0, 0)) := by rw [← hv1]; exact heap_alloc_new w _
  have hs1 : Spares nowhere w v1 := by rw [← hv1]; exact (Spares.refl _ w).alloc _
  have hz1 : v1.heap.size = w.heap.size + 1 := by rw [← hv1]; simp
  have HV1 := Lib.hid hv1
  clear hv1
  go_enter Tryd.func18, Tryd.ntmps18
  go_wp2_with fail
  change Calls _ _ _ (w.alloc (.cells #[.bool false, .string ⟨#[]⟩, .string ⟨#[]⟩, .string ⟨#[]⟩] 50)) _
  rw [HV1.out]
  refine (cW v1).mono ?_
  rintro e v2 ⟨v, rfl, hr, hb⟩
  have hq2 : v2.heap[w.heap.size]? = some (.cells #[.bool false, .string ⟨#[]⟩, .string ⟨#[]⟩, .string ⟨#[]⟩] 50 (0, 0)) := (hb.block _ (by omega)).trans hq
  have hs2 : Spares nowhere w v2 := hs1.trans' (Below.spares (F := nowhere) hb (fun k hk => .inr hk)) (fun _ h => by cases h)
  have hst := rule_stored (a' := .bool false) (b' := .string ⟨#[]⟩) (c' := .string ⟨#[]⟩) (d' := .string ⟨#[]⟩) hq2
  have HT := Lib.hid hst.1
  have HQ := Lib.hid hst.2
  have HS := Lib.hid hs2
  have hn : ((L.length : Int) == 4) = false := by simp; omega
  clear hq hs1 hz1 hb hq2 hs2 hst cW
  rcases hr.shape with ⟨rfl, hl0⟩ | ⟨g, c, rfl, _, _, _, _⟩
  · go_wp2_with ((with_reducible show wpList _ _ _ (⟨none, .store 50 _ _, _, _, _, _⟩ :: _) _ _); refine wpList_store_mid rfl 50 (.tmp 2) (.tmp 24) rfl w.heap.size 0 #[.bool false, .string ⟨#[]⟩, .string ⟨#[]⟩, .string ⟨#[]⟩] rfl rfl HT.out HI.out (onesRule _ _ _ _) ?_)
    exact bodyPost_ret (v := .tuple #[.agg #[.bool false, .string ⟨#[]⟩, .string ⟨#[]⟩, .string ⟨#[]⟩], .int .i64 122]) (results_cell_two rfl _ _ w.heap.size 50 #[.bool false, .string ⟨#[]⟩, .string ⟨#[]⟩, .string ⟨#[]⟩] (0, 0) _ (.int .i64 122) rfl rfl HQ.out Tryd.underlying50 (by rfl) HI.out) rfl ⟨by rw [HV.out]; rfl, HS.out.trans' (F' := fun b => b = w.heap.size) (spares_setCells _ _ _ (Spares.refl _ _)) (fun b hb => .inr (by omega))⟩
  · clear hr
    go_wp2_with ((with_reducible show wpList _ _ _ (⟨none, .store 50 _ _, _, _, _, _⟩ :: _) _ _); refine wpList_store_mid rfl 50 (.tmp 2) (.tmp 24) rfl w.heap.size 0 #[.bool false, .string ⟨#[]⟩, .string ⟨#[]⟩, .string ⟨#[]⟩] rfl rfl HT.out HI.out (onesRule _ _ _ _) ?_)
    exact bodyPost_ret (v := .tuple #[.agg #[.bool false, .string ⟨#[]⟩, .string ⟨#[]⟩, .string ⟨#[]⟩], .int .i64 122]) (results_cell_two rfl _ _ w.heap.size 50 #[.bool false, .string ⟨#[]⟩, .string ⟨#[]⟩, .string ⟨#[]⟩] (0, 0) _ (.int .i64 122) rfl rfl HQ.out Tryd.underlying50 (by rfl) HI.out) rfl ⟨by rw [HV.out]; rfl, HS.out.trans' (F' := fun b => b = w.heap.size) (spares_setCells _ _ _ (Spares.refl _ _)) (fun b hb => .inr (by omega))⟩
end Go.Proofs.YtjdiaighfhljgaaDoor
