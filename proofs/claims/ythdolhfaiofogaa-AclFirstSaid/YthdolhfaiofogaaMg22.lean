/-
  The reference's RuleOf: four words with allow or deny ahead.
  The reference's RuleOf: four words with allow or deny ahead.
  The reference's RuleOf: a rule of a text.
  acl.Parse: four words with allow or deny ahead.
  acl.Parse: a rule of a text.
-/
import Derived.StillTailTactics
import Derived.Test.YthdolhfaiofogaaMg8
import Derived.Test.YthdolhfaiofogaaMg19
namespace Go.Proofs.Ythdolhfaiofogaa
open Go.RowKit GlobMath

theorem refValid_free (p : ByteArray) (w : World) :
    Calls Try.prog 20 #[.string p] w fun e w' => e = .returned (.int .i64 (vcode (validF p.data.toList))) ∧ w' = w := by
  by_cases h : p.size ≤ 200
  · rw [valid_of_ok p h]
    refine (refValid_short p w (by omega)).mono ?_
    rintro e w' ⟨he, hw⟩
    exact ⟨he, hw.symm⟩
  · have : validF p.data.toList = false := by unfold validF; rw [size_list]; simp; omega
    rw [this]
    refine (refValid_long p w (by omega)).mono ?_
    rintro e w' ⟨he, hw⟩
    exact ⟨he, hw.symm⟩
set_option maxHeartbeats 16000000 in
theorem refRule_allow (s : ByteArray) (w : World) (hs : s.size ≤ 1000000) (a m h p : ByteArray) (hL : wordsL s = [a, m, h, p]) (hw : a.data.toList = allowB) : Calls Try.prog 9 #[.string s] w (RulePost s w) := by
  have HI := Lib.hid infoRule
  have HW : Hid (firstF a = true) := Lib.hid (by unfold firstF; rw [hw]; rfl)
  have HA : Hid ((a.data.toList == allowB) = true) := Lib.hid (by rw [hw]; rfl)
  unfold RulePost
  have cW := fun w => refWords_any s w hs
  unfold WordsPost at cW
  rw [hL]
  simp only [hL] at cW
  have y1 : (a.toList == [97, 108, 108, 111, 119]) = true := by rw [Lib.toList_data, hw]; rfl
  have y2 : (a.toList == [100, 101, 110, 121]) = false := by rw [Lib.toList_data, hw]; rfl
  clear hL hw
  obtain ⟨v1, hv1⟩ : ∃ v1, w.alloc (.cells #[.bool false, .string ⟨#[]⟩, .string ⟨#[]⟩, .string ⟨#[]⟩] 23) = v1 := ⟨_, rfl⟩
  have hq : v1.heap[w.heap.size]? = some (.cells #[.bool false, .string ⟨#[]⟩, .string ⟨#[]⟩, .string ⟨#[]⟩] 23 (0, 0)) := by rw [← hv1]; exact heap_alloc_new w _
  have hs1 : Spares nowhere w v1 := by rw [← hv1]; exact (Spares.refl _ w).alloc _
  have hz1 : v1.heap.size = w.heap.size + 1 := by rw [← hv1]; simp
  have HV1 := Lib.hid hv1
  clear hv1
  go_enter Try.func9, Try.ntmps9
  go_wp2_with fail
  change Calls _ _ _ (w.alloc (.cells #[.bool false, .string ⟨#[]⟩, .string ⟨#[]⟩, .string ⟨#[]⟩] 23)) _
  rw [HV1.out]
  refine (cW v1).mono ?_
  rintro e v2 ⟨v, rfl, hr, hb⟩
  have HR2 : Hid (v2.heap[w.heap.size]? = some (.cells #[.bool false, .string ⟨#[]⟩, .string ⟨#[]⟩, .string ⟨#[]⟩] 23 (0, 0))) := Lib.hid ((hb.block _ (by omega)).trans hq)
  have HS2 : Hid (Spares nowhere w v2) := Lib.hid (hs1.trans' (Below.spares (F := nowhere) hb (fun k hk => .inr hk)) (fun _ h => by cases h))
  rcases hr.shape with ⟨_, hl0⟩ | ⟨g, c, rfl, _, hg, hc, hcells⟩
  · cases hl0
  · have c0 : v2.cell? ⟨g, 0, none⟩ = some (.string a) := hcells 0 (Nat.zero_lt_succ _)
    have c1 : v2.cell? ⟨g, 1, none⟩ = some (.string m) := hcells 1 (by simp)
    have c2 : v2.cell? ⟨g, 2, none⟩ = some (.string h) := hcells 2 (by simp)
    have c3 : v2.cell? ⟨g, 3, none⟩ = some (.string p) := hcells 3 (by simp)
    change 4 ≤ c at hc
    clear hr hcells hq hs1 hz1 hb cW hg
    rw [show [a, m, h, p].length = 4 from rfl]
    have z1 : (a.toList != [97, 108, 108, 111, 119]) = !true := by rw [bne, y1]
    have z2 : (a.toList != [100, 101, 110, 121]) = !false := by rw [bne, y2]
    simp only [Bool.not_true, Bool.not_false] at z1 z2
    go_wp2
    go_quiet ((go_at_call 20; exact Calls.quiet_of_same (refValid_free _ _)))
    obtain ⟨wo, hwo⟩ : ∃ wo, v2.drewN nq = wo := ⟨_, rfl⟩
    have HSo : Hid (Spares nowhere v2 wo) := Lib.hid (by rw [← hwo]; exact (Spares.refl _ v2).drewN nq)
    have e0 : wo.cell? ⟨g, 0, none⟩ = some (.string a) := by rw [← hwo]; exact c0
    have e1 : wo.cell? ⟨g, 1, none⟩ = some (.string m) := by rw [← hwo]; exact c1
    have e2 : wo.cell? ⟨g, 2, none⟩ = some (.string h) := by rw [← hwo]; exact c2
    have e3 : wo.cell? ⟨g, 3, none⟩ = some (.string p) := by rw [← hwo]; exact c3
    rw [hwo]
    clear hwo c0 c1 c2 c3
    cases qm : validF m.data.toList with
    | true =>
      have Hm := Lib.hid qm
      clear qm
      cases qh : validF h.data.toList with
      | true =>
        have Hh := Lib.hid qh
        clear qh
        cases qp : validF p.data.toList with
        | true =>
          have Hp := Lib.hid qp
          clear qp
          simp only [show vcode true = 0 from rfl]
          have HV := Lib.hid (ruleL_good HW.out Hm.out Hh.out Hp.out)
          rw [HA.out] at HV
          have hst := rule_stored (v := wo.drew) (a' := .bool true) (b' := .string m) (c' := .string h) (d' := .string p) (HSo.out.drew.heap HR2.out (fun h => h))
          have HT := Lib.hid hst.1
          have HQ := Lib.hid hst.2
          clear hst
          have HS9 := Lib.hid HSo.out.drew
          have z0 : wrap64 0 = 0 := by simp [wrap64]
          clear y2 z1 z2
          simp only [Int.add_zero, z0]
          go_wp2
          go_still_tail 14, (by kernel_rfl)
          change wpList _ _ _ _ _ wo.drew
          go_wp2_with ((with_reducible show wpList _ _ _ (⟨none, .store 23 _ _, _, _, _, _⟩ :: _) _ _); refine wpList_store_mid rfl 23 (.tmp 2) (.tmp 53) rfl w.heap.size 0 #[.bool true, .string m, .string h, .string p] rfl rfl HT.out HI.out (onesRule _ _ _ _) ?_)
          exact bodyPost_ret (v := .tuple #[.agg #[.bool true, .string m, .string h, .string p], .int .i64 0]) (results_cell_two rfl _ _ w.heap.size 23 #[.bool true, .string m, .string h, .string p] (0, 0) _ (.int .i64 0) rfl rfl HQ.out Try.underlying23 (by rfl) HI.out) rfl ⟨by rw [HV.out]; rfl, (HS2.out.trans HS9.out).trans' (F' := fun b => b = w.heap.size) (spares_setCells _ _ _ (Spares.refl _ _)) (fun b hb => .inr (by omega))⟩
        | false =>
          have Hp := Lib.hid qp
          clear qp
          simp only [show vcode true = 0 from rfl, show vcode false = 120 from rfl]
          have HV := Lib.hid (ruleL_bad (a := a) (m := m) (h := h) (p := p) (by rw [Hp.out]; simp))
          have hst := rule_stored (v := wo) (a' := .bool false) (b' := .string ⟨#[]⟩) (c' := .string ⟨#[]⟩) (d' := .string ⟨#[]⟩) (HSo.out.heap HR2.out (fun h => h))
          have HT := Lib.hid hst.1
          have HQ := Lib.hid hst.2
          clear hst
          have u1 : wrap64 120 = 120 := by simp [wrap64]
          have u2 : wrap64 240 = 240 := by simp [wrap64]
          have u3 : wrap64 360 = 360 := by simp [wrap64]
          clear y2 z1 z2
          have n1 : ((120 : Int) + 120) = 240 := rfl
          have n2 : ((240 : Int) + 120) = 360 := rfl
          have z0 : wrap64 0 = 0 := by simp [wrap64]
          simp only [Int.add_zero, Int.zero_add, n1, n2, u1, u2, u3, z0]
          go_wp2_with ((with_reducible show wpList _ _ _ (⟨none, .store 23 _ _, _, _, _, _⟩ :: _) _ _); refine wpList_store_mid rfl 23 (.tmp 2) (.tmp 39) rfl w.heap.size 0 #[.bool false, .string ⟨#[]⟩, .string ⟨#[]⟩, .string ⟨#[]⟩] rfl rfl HT.out HI.out (onesRule _ _ _ _) ?_)
          exact bodyPost_ret (v := .tuple #[.agg #[.bool false, .string ⟨#[]⟩, .string ⟨#[]⟩, .string ⟨#[]⟩], .int .i64 122]) (results_cell_two rfl _ _ w.heap.size 23 #[.bool false, .string ⟨#[]⟩, .string ⟨#[]⟩, .string ⟨#[]⟩] (0, 0) _ (.int .i64 122) rfl rfl HQ.out Try.underlying23 (by rfl) HI.out) rfl ⟨by rw [HV.out]; rfl, (HS2.out.trans HSo.out).trans' (F' := fun b => b = w.heap.size) (spares_setCells _ _ _ (Spares.refl _ _)) (fun b hb => .inr (by omega))⟩
      | false =>
        have Hh := Lib.hid qh
        clear qh
        cases qp : validF p.data.toList with
        | true =>
          have Hp := Lib.hid qp
          clear qp
          simp only [show vcode true = 0 from rfl, show vcode false = 120 from rfl]
          have HV := Lib.hid (ruleL_bad (a := a) (m := m) (h := h) (p := p) (by rw [Hh.out]; simp))
          have hst := rule_stored (v := wo) (a' := .bool false) (b' := .string ⟨#[]⟩) (c' := .string ⟨#[]⟩) (d' := .string ⟨#[]⟩) (HSo.out.heap HR2.out (fun h => h))
          have HT := Lib.hid hst.1
          have HQ := Lib.hid hst.2
          clear hst
          have u1 : wrap64 120 = 120 := by simp [wrap64]
          have u2 : wrap64 240 = 240 := by simp [wrap64]
          have u3 : wrap64 360 = 360 := by simp [wrap64]
          clear y2 z1 z2
          have n1 : ((120 : Int) + 120) = 240 := rfl
          have n2 : ((240 : Int) + 120) = 360 := rfl
          have z0 : wrap64 0 = 0 := by simp [wrap64]
          simp only [Int.add_zero, Int.zero_add, n1, n2, u1, u2, u3, z0]
          go_wp2_with ((with_reducible show wpList _ _ _ (⟨none, .store 23 _ _, _, _, _, _⟩ :: _) _ _); refine wpList_store_mid rfl 23 (.tmp 2) (.tmp 39) rfl w.heap.size 0 #[.bool false, .string ⟨#[]⟩, .string ⟨#[]⟩, .string ⟨#[]⟩] rfl rfl HT.out HI.out (onesRule _ _ _ _) ?_)
          exact bodyPost_ret (v := .tuple #[.agg #[.bool false, .string ⟨#[]⟩, .string ⟨#[]⟩, .string ⟨#[]⟩], .int .i64 122]) (results_cell_two rfl _ _ w.heap.size 23 #[.bool false, .string ⟨#[]⟩, .string ⟨#[]⟩, .string ⟨#[]⟩] (0, 0) _ (.int .i64 122) rfl rfl HQ.out Try.underlying23 (by rfl) HI.out) rfl ⟨by rw [HV.out]; rfl, (HS2.out.trans HSo.out).trans' (F' := fun b => b = w.heap.size) (spares_setCells _ _ _ (Spares.refl _ _)) (fun b hb => .inr (by omega))⟩
        | false =>
          have Hp := Lib.hid qp
          clear qp
          simp only [show vcode true = 0 from rfl, show vcode false = 120 from rfl]
          have HV := Lib.hid (ruleL_bad (a := a) (m := m) (h := h) (p := p) (by rw [Hh.out]; simp))
          have hst := rule_stored (v := wo) (a' := .bool false) (b' := .string ⟨#[]⟩) (c' := .string ⟨#[]⟩) (d' := .string ⟨#[]⟩) (HSo.out.heap HR2.out (fun h => h))
          have HT := Lib.hid hst.1
          have HQ := Lib.hid hst.2
          clear hst
          have u1 : wrap64 120 = 120 := by simp [wrap64]
          have u2 : wrap64 240 = 240 := by simp [wrap64]
          have u3 : wrap64 360 = 360 := by simp [wrap64]
          clear y2 z1 z2
          have n1 : ((120 : Int) + 120) = 240 := rfl
          have n2 : ((240 : Int) + 120) = 360 := rfl
          have z0 : wrap64 0 = 0 := by simp [wrap64]
          simp only [Int.add_zero, Int.zero_add, n1, n2, u1, u2, u3, z0]
          go_wp2_with ((with_reducible show wpList _ _ _ (⟨none, .store 23 _ _, _, _, _, _⟩ :: _) _ _); refine wpList_store_mid rfl 23 (.tmp 2) (.tmp 39) rfl w.heap.size 0 #[.bool false, .string ⟨#[]⟩, .string ⟨#[]⟩, .string ⟨#[]⟩] rfl rfl HT.out HI.out (onesRule _ _ _ _) ?_)
          exact bodyPost_ret (v := .tuple #[.agg #[.bool false, .string ⟨#[]⟩, .string ⟨#[]⟩, .string ⟨#[]⟩], .int .i64 122]) (results_cell_two rfl _ _ w.heap.size 23 #[.bool false, .string ⟨#[]⟩, .string ⟨#[]⟩, .string ⟨#[]⟩] (0, 0) _ (.int .i64 122) rfl rfl HQ.out Try.underlying23 (by rfl) HI.out) rfl ⟨by rw [HV.out]; rfl, (HS2.out.trans HSo.out).trans' (F' := fun b => b = w.heap.size) (spares_setCells _ _ _ (Spares.refl _ _)) (fun b hb => .inr (by omega))⟩
    | false =>
      have Hm := Lib.hid qm
      clear qm
      cases qh : validF h.data.toList with
      | true =>
        have Hh := Lib.hid qh
        clear qh
        cases qp : validF p.data.toList with
        | true =>
          have Hp := Lib.hid qp
          clear qp
          simp only [show vcode true = 0 from rfl, show vcode false = 120 from rfl]
          have HV := Lib.hid (ruleL_bad (a := a) (m := m) (h := h) (p := p) (by rw [Hm.out]; rfl))
          have hst := rule_stored (v := wo) (a' := .bool false) (b' := .string ⟨#[]⟩) (c' := .string ⟨#[]⟩) (d' := .string ⟨#[]⟩) (HSo.out.heap HR2.out (fun h => h))
          have HT := Lib.hid hst.1
          have HQ := Lib.hid hst.2
          clear hst
          have u1 : wrap64 120 = 120 := by simp [wrap64]
          have u2 : wrap64 240 = 240 := by simp [wrap64]
          have u3 : wrap64 360 = 360 := by simp [wrap64]
          clear y2 z1 z2
          have n1 : ((120 : Int) + 120) = 240 := rfl
          have n2 : ((240 : Int) + 120) = 360 := rfl
          have z0 : wrap64 0 = 0 := by simp [wrap64]
          simp only [Int.add_zero, Int.zero_add, n1, n2, u1, u2, u3, z0]
          go_wp2_with ((with_reducible show wpList _ _ _ (⟨none, .store 23 _ _, _, _, _, _⟩ :: _) _ _); refine wpList_store_mid rfl 23 (.tmp 2) (.tmp 39) rfl w.heap.size 0 #[.bool false, .string ⟨#[]⟩, .string ⟨#[]⟩, .string ⟨#[]⟩] rfl rfl HT.out HI.out (onesRule _ _ _ _) ?_)
          exact bodyPost_ret (v := .tuple #[.agg #[.bool false, .string ⟨#[]⟩, .string ⟨#[]⟩, .string ⟨#[]⟩], .int .i64 122]) (results_cell_two rfl _ _ w.heap.size 23 #[.bool false, .string ⟨#[]⟩, .string ⟨#[]⟩, .string ⟨#[]⟩] (0, 0) _ (.int .i64 122) rfl rfl HQ.out Try.underlying23 (by rfl) HI.out) rfl ⟨by rw [HV.out]; rfl, (HS2.out.trans HSo.out).trans' (F' := fun b => b = w.heap.size) (spares_setCells _ _ _ (Spares.refl _ _)) (fun b hb => .inr (by omega))⟩
        | false =>
          have Hp := Lib.hid qp
          clear qp
          simp only [show vcode true = 0 from rfl, show vcode false = 120 from rfl]
          have HV := Lib.hid (ruleL_bad (a := a) (m := m) (h := h) (p := p) (by rw [Hm.out]; rfl))
          have hst := rule_stored (v := wo) (a' := .bool false) (b' := .string ⟨#[]⟩) (c' := .string ⟨#[]⟩) (d' := .string ⟨#[]⟩) (HSo.out.heap HR2.out (fun h => h))
          have HT := Lib.hid hst.1
          have HQ := Lib.hid hst.2
          clear hst
          have u1 : wrap64 120 = 120 := by simp [wrap64]
          have u2 : wrap64 240 = 240 := by simp [wrap64]
          have u3 : wrap64 360 = 360 := by simp [wrap64]
          clear y2 z1 z2
          have n1 : ((120 : Int) + 120) = 240 := rfl
          have n2 : ((240 : Int) + 120) = 360 := rfl
          have z0 : wrap64 0 = 0 := by simp [wrap64]
          simp only [Int.add_zero, Int.zero_add, n1, n2, u1, u2, u3, z0]
          go_wp2_with ((with_reducible show wpList _ _ _ (⟨none, .store 23 _ _, _, _, _, _⟩ :: _) _ _); refine wpList_store_mid rfl 23 (.tmp 2) (.tmp 39) rfl w.heap.size 0 #[.bool false, .string ⟨#[]⟩, .string ⟨#[]⟩, .string ⟨#[]⟩] rfl rfl HT.out HI.out (onesRule _ _ _ _) ?_)
          exact bodyPost_ret (v := .tuple #[.agg #[.bool false, .string ⟨#[]⟩, .string ⟨#[]⟩, .string ⟨#[]⟩], .int .i64 122]) (results_cell_two rfl _ _ w.heap.size 23 #[.bool false, .string ⟨#[]⟩, .string ⟨#[]⟩, .string ⟨#[]⟩] (0, 0) _ (.int .i64 122) rfl rfl HQ.out Try.underlying23 (by rfl) HI.out) rfl ⟨by rw [HV.out]; rfl, (HS2.out.trans HSo.out).trans' (F' := fun b => b = w.heap.size) (spares_setCells _ _ _ (Spares.refl _ _)) (fun b hb => .inr (by omega))⟩
      | false =>
        have Hh := Lib.hid qh
        clear qh
        cases qp : validF p.data.toList with
        | true =>
          have Hp := Lib.hid qp
          clear qp
          simp only [show vcode true = 0 from rfl, show vcode false = 120 from rfl]
          have HV := Lib.hid (ruleL_bad (a := a) (m := m) (h := h) (p := p) (by rw [Hm.out]; rfl))
          have hst := rule_stored (v := wo) (a' := .bool false) (b' := .string ⟨#[]⟩) (c' := .string ⟨#[]⟩) (d' := .string ⟨#[]⟩) (HSo.out.heap HR2.out (fun h => h))
          have HT := Lib.hid hst.1
          have HQ := Lib.hid hst.2
          clear hst
          have u1 : wrap64 120 = 120 := by simp [wrap64]
          have u2 : wrap64 240 = 240 := by simp [wrap64]
          have u3 : wrap64 360 = 360 := by simp [wrap64]
          clear y2 z1 z2
          have n1 : ((120 : Int) + 120) = 240 := rfl
          have n2 : ((240 : Int) + 120) = 360 := rfl
          have z0 : wrap64 0 = 0 := by simp [wrap64]
          simp only [Int.add_zero, Int.zero_add, n1, n2, u1, u2, u3, z0]
          go_wp2_with ((with_reducible show wpList _ _ _ (⟨none, .store 23 _ _, _, _, _, _⟩ :: _) _ _); refine wpList_store_mid rfl 23 (.tmp 2) (.tmp 39) rfl w.heap.size 0 #[.bool false, .string ⟨#[]⟩, .string ⟨#[]⟩, .string ⟨#[]⟩] rfl rfl HT.out HI.out (onesRule _ _ _ _) ?_)
          exact bodyPost_ret (v := .tuple #[.agg #[.bool false, .string ⟨#[]⟩, .string ⟨#[]⟩, .string ⟨#[]⟩], .int .i64 122]) (results_cell_two rfl _ _ w.heap.size 23 #[.bool false, .string ⟨#[]⟩, .string ⟨#[]⟩, .string ⟨#[]⟩] (0, 0) _ (.int .i64 122) rfl rfl HQ.out Try.underlying23 (by rfl) HI.out) rfl ⟨by rw [HV.out]; rfl, (HS2.out.trans HSo.out).trans' (F' := fun b => b = w.heap.size) (spares_setCells _ _ _ (Spares.refl _ _)) (fun b hb => .inr (by omega))⟩
        | false =>
          have Hp := Lib.hid qp
          clear qp
          simp only [show vcode false = 120 from rfl]
          have HV := Lib.hid (ruleL_bad (a := a) (m := m) (h := h) (p := p) (by rw [Hm.out]; rfl))
          have hst := rule_stored (v := wo) (a' := .bool false) (b' := .string ⟨#[]⟩) (c' := .string ⟨#[]⟩) (d' := .string ⟨#[]⟩) (HSo.out.heap HR2.out (fun h => h))
          have HT := Lib.hid hst.1
          have HQ := Lib.hid hst.2
          clear hst
          have u1 : wrap64 120 = 120 := by simp [wrap64]
          have u2 : wrap64 240 = 240 := by simp [wrap64]
          have u3 : wrap64 360 = 360 := by simp [wrap64]
          clear y2 z1 z2
          have n1 : ((120 : Int) + 120) = 240 := rfl
          have n2 : ((240 : Int) + 120) = 360 := rfl
          have z0 : wrap64 0 = 0 := by simp [wrap64]
          simp only [Int.add_zero, Int.zero_add, n1, n2, u1, u2, u3, z0]
          go_wp2_with ((with_reducible show wpList _ _ _ (⟨none, .store 23 _ _, _, _, _, _⟩ :: _) _ _); refine wpList_store_mid rfl 23 (.tmp 2) (.tmp 39) rfl w.heap.size 0 #[.bool false, .string ⟨#[]⟩, .string ⟨#[]⟩, .string ⟨#[]⟩] rfl rfl HT.out HI.out (onesRule _ _ _ _) ?_)
          exact bodyPost_ret (v := .tuple #[.agg #[.bool false, .string ⟨#[]⟩, .string ⟨#[]⟩, .string ⟨#[]⟩], .int .i64 122]) (results_cell_two rfl _ _ w.heap.size 23 #[.bool false, .string ⟨#[]⟩, .string ⟨#[]⟩, .string ⟨#[]⟩] (0, 0) _ (.int .i64 122) rfl rfl HQ.out Try.underlying23 (by rfl) HI.out) rfl ⟨by rw [HV.out]; rfl, (HS2.out.trans HSo.out).trans' (F' := fun b => b = w.heap.size) (spares_setCells _ _ _ (Spares.refl _ _)) (fun b hb => .inr (by omega))⟩
end Go.Proofs.Ythdolhfaiofogaa
namespace Go.Proofs.Ythdolhfaiofogaa
open Go.RowKit GlobMath

set_option maxHeartbeats 16000000 in
theorem refRule_deny (s : ByteArray) (w : World) (hs : s.size ≤ 1000000) (a m h p : ByteArray) (hL : wordsL s = [a, m, h, p]) (hw : a.data.toList = denyB) : Calls Try.prog 9 #[.string s] w (RulePost s w) := by
  have HI := Lib.hid infoRule
  have HW : Hid (firstF a = true) := Lib.hid (by unfold firstF; rw [hw]; rfl)
  have HA : Hid ((a.data.toList == allowB) = false) := Lib.hid (by rw [hw]; rfl)
  unfold RulePost
  have cW := fun w => refWords_any s w hs
  unfold WordsPost at cW
  rw [hL]
  simp only [hL] at cW
  have y1 : (a.toList == [97, 108, 108, 111, 119]) = false := by rw [Lib.toList_data, hw]; rfl
  have y2 : (a.toList == [100, 101, 110, 121]) = true := by rw [Lib.toList_data, hw]; rfl
  clear hL hw
  obtain ⟨v1, hv1⟩ : ∃ v1, w.alloc (.cells #[.bool false, .string ⟨#[]⟩, .string ⟨#[]⟩, .string ⟨#[]⟩] 23) = v1 := ⟨_, rfl⟩
  have hq : v1.heap[w.heap.size]? = some (.cells #[.bool false, .string ⟨#[]⟩, .string ⟨#[]⟩, .string ⟨#[]⟩] 23 (0, 0)) := by rw [← hv1]; exact heap_alloc_new w _
  have hs1 : Spares nowhere w v1 := by rw [← hv1]; exact (Spares.refl _ w).alloc _
  have hz1 : v1.heap.size = w.heap.size + 1 := by rw [← hv1]; simp
  have HV1 := Lib.hid hv1
  clear hv1
  go_enter Try.func9, Try.ntmps9
  go_wp2_with fail
  change Calls _ _ _ (w.alloc (.cells #[.bool false, .string ⟨#[]⟩, .string ⟨#[]⟩, .string ⟨#[]⟩] 23)) _
  rw [HV1.out]
  refine (cW v1).mono ?_
  rintro e v2 ⟨v, rfl, hr, hb⟩
  have HR2 : Hid (v2.heap[w.heap.size]? = some (.cells #[.bool false, .string ⟨#[]⟩, .string ⟨#[]⟩, .string ⟨#[]⟩] 23 (0, 0))) := Lib.hid ((hb.block _ (by omega)).trans hq)
  have HS2 : Hid (Spares nowhere w v2) := Lib.hid (hs1.trans' (Below.spares (F := nowhere) hb (fun k hk => .inr hk)) (fun _ h => by cases h))
  rcases hr.shape with ⟨_, hl0⟩ | ⟨g, c, rfl, _, hg, hc, hcells⟩
  · cases hl0
  · have c0 : v2.cell? ⟨g, 0, none⟩ = some (.string a) := hcells 0 (Nat.zero_lt_succ _)
    have c1 : v2.cell? ⟨g, 1, none⟩ = some (.string m) := hcells 1 (by simp)
    have c2 : v2.cell? ⟨g, 2, none⟩ = some (.string h) := hcells 2 (by simp)
    have c3 : v2.cell? ⟨g, 3, none⟩ = some (.string p) := hcells 3 (by simp)
    change 4 ≤ c at hc
    clear hr hcells hq hs1 hz1 hb cW hg
    rw [show [a, m, h, p].length = 4 from rfl]
    have z1 : (a.toList != [97, 108, 108, 111, 119]) = !false := by rw [bne, y1]
    have z2 : (a.toList != [100, 101, 110, 121]) = !true := by rw [bne, y2]
    simp only [Bool.not_true, Bool.not_false] at z1 z2
    go_wp2
    go_quiet ((go_at_call 20; exact Calls.quiet_of_same (refValid_free _ _)))
    obtain ⟨wo, hwo⟩ : ∃ wo, v2.drewN nq = wo := ⟨_, rfl⟩
    have HSo : Hid (Spares nowhere v2 wo) := Lib.hid (by rw [← hwo]; exact (Spares.refl _ v2).drewN nq)
    have e0 : wo.cell? ⟨g, 0, none⟩ = some (.string a) := by rw [← hwo]; exact c0
    have e1 : wo.cell? ⟨g, 1, none⟩ = some (.string m) := by rw [← hwo]; exact c1
    have e2 : wo.cell? ⟨g, 2, none⟩ = some (.string h) := by rw [← hwo]; exact c2
    have e3 : wo.cell? ⟨g, 3, none⟩ = some (.string p) := by rw [← hwo]; exact c3
    rw [hwo]
    clear hwo c0 c1 c2 c3
    cases qm : validF m.data.toList with
    | true =>
      have Hm := Lib.hid qm
      clear qm
      cases qh : validF h.data.toList with
      | true =>
        have Hh := Lib.hid qh
        clear qh
        cases qp : validF p.data.toList with
        | true =>
          have Hp := Lib.hid qp
          clear qp
          simp only [show vcode true = 0 from rfl]
          have HV := Lib.hid (ruleL_good HW.out Hm.out Hh.out Hp.out)
          rw [HA.out] at HV
          have hst := rule_stored (v := wo.drew) (a' := .bool false) (b' := .string m) (c' := .string h) (d' := .string p) (HSo.out.drew.heap HR2.out (fun h => h))
          have HT := Lib.hid hst.1
          have HQ := Lib.hid hst.2
          clear hst
          have HS9 := Lib.hid HSo.out.drew
          have z0 : wrap64 0 = 0 := by simp [wrap64]
          clear y2 z1 z2
          simp only [Int.add_zero, z0]
          go_wp2
          go_still_tail 14, (by kernel_rfl)
          change wpList _ _ _ _ _ wo.drew
          go_wp2_with ((with_reducible show wpList _ _ _ (⟨none, .store 23 _ _, _, _, _, _⟩ :: _) _ _); refine wpList_store_mid rfl 23 (.tmp 2) (.tmp 53) rfl w.heap.size 0 #[.bool false, .string m, .string h, .string p] rfl rfl HT.out HI.out (onesRule _ _ _ _) ?_)
          exact bodyPost_ret (v := .tuple #[.agg #[.bool false, .string m, .string h, .string p], .int .i64 0]) (results_cell_two rfl _ _ w.heap.size 23 #[.bool false, .string m, .string h, .string p] (0, 0) _ (.int .i64 0) rfl rfl HQ.out Try.underlying23 (by rfl) HI.out) rfl ⟨by rw [HV.out]; rfl, (HS2.out.trans HS9.out).trans' (F' := fun b => b = w.heap.size) (spares_setCells _ _ _ (Spares.refl _ _)) (fun b hb => .inr (by omega))⟩
        | false =>
          have Hp := Lib.hid qp
          clear qp
          simp only [show vcode true = 0 from rfl, show vcode false = 120 from rfl]
          have HV := Lib.hid (ruleL_bad (a := a) (m := m) (h := h) (p := p) (by rw [Hp.out]; simp))
          have hst := rule_stored (v := wo) (a' := .bool false) (b' := .string ⟨#[]⟩) (c' := .string ⟨#[]⟩) (d' := .string ⟨#[]⟩) (HSo.out.heap HR2.out (fun h => h))
          have HT := Lib.hid hst.1
          have HQ := Lib.hid hst.2
          clear hst
          have u1 : wrap64 120 = 120 := by simp [wrap64]
          have u2 : wrap64 240 = 240 := by simp [wrap64]
          have u3 : wrap64 360 = 360 := by simp [wrap64]
          clear y2 z1 z2
          have n1 : ((120 : Int) + 120) = 240 := rfl
          have n2 : ((240 : Int) + 120) = 360 := rfl
          have z0 : wrap64 0 = 0 := by simp [wrap64]
          simp only [Int.add_zero, Int.zero_add, n1, n2, u1, u2, u3, z0]
          go_wp2_with ((with_reducible show wpList _ _ _ (⟨none, .store 23 _ _, _, _, _, _⟩ :: _) _ _); refine wpList_store_mid rfl 23 (.tmp 2) (.tmp 39) rfl w.heap.size 0 #[.bool false, .string ⟨#[]⟩, .string ⟨#[]⟩, .string ⟨#[]⟩] rfl rfl HT.out HI.out (onesRule _ _ _ _) ?_)
          exact bodyPost_ret (v := .tuple #[.agg #[.bool false, .string ⟨#[]⟩, .string ⟨#[]⟩, .string ⟨#[]⟩], .int .i64 122]) (results_cell_two rfl _ _ w.heap.size 23 #[.bool false, .string ⟨#[]⟩, .string ⟨#[]⟩, .string ⟨#[]⟩] (0, 0) _ (.int .i64 122) rfl rfl HQ.out Try.underlying23 (by rfl) HI.out) rfl ⟨by rw [HV.out]; rfl, (HS2.out.trans HSo.out).trans' (F' := fun b => b = w.heap.size) (spares_setCells _ _ _ (Spares.refl _ _)) (fun b hb => .inr (by omega))⟩
      | false =>
        have Hh := Lib.hid qh
        clear qh
        cases qp : validF p.data.toList with
        | true =>
          have Hp := Lib.hid qp
          clear qp
          simp only [show vcode true = 0 from rfl, show vcode false = 120 from rfl]
          have HV := Lib.hid (ruleL_bad (a := a) (m := m) (h := h) (p := p) (by rw [Hh.out]; simp))
          have hst := rule_stored (v := wo) (a' := .bool false) (b' := .string ⟨#[]⟩) (c' := .string ⟨#[]⟩) (d' := .string ⟨#[]⟩) (HSo.out.heap HR2.out (fun h => h))
          have HT := Lib.hid hst.1
          have HQ := Lib.hid hst.2
          clear hst
          have u1 : wrap64 120 = 120 := by simp [wrap64]
          have u2 : wrap64 240 = 240 := by simp [wrap64]
          have u3 : wrap64 360 = 360 := by simp [wrap64]
          clear y2 z1 z2
          have n1 : ((120 : Int) + 120) = 240 := rfl
          have n2 : ((240 : Int) + 120) = 360 := rfl
          have z0 : wrap64 0 = 0 := by simp [wrap64]
          simp only [Int.add_zero, Int.zero_add, n1, n2, u1, u2, u3, z0]
          go_wp2_with ((with_reducible show wpList _ _ _ (⟨none, .store 23 _ _, _, _, _, _⟩ :: _) _ _); refine wpList_store_mid rfl 23 (.tmp 2) (.tmp 39) rfl w.heap.size 0 #[.bool false, .string ⟨#[]⟩, .string ⟨#[]⟩, .string ⟨#[]⟩] rfl rfl HT.out HI.out (onesRule _ _ _ _) ?_)
          exact bodyPost_ret (v := .tuple #[.agg #[.bool false, .string ⟨#[]⟩, .string ⟨#[]⟩, .string ⟨#[]⟩], .int .i64 122]) (results_cell_two rfl _ _ w.heap.size 23 #[.bool false, .string ⟨#[]⟩, .string ⟨#[]⟩, .string ⟨#[]⟩] (0, 0) _ (.int .i64 122) rfl rfl HQ.out Try.underlying23 (by rfl) HI.out) rfl ⟨by rw [HV.out]; rfl, (HS2.out.trans HSo.out).trans' (F' := fun b => b = w.heap.size) (spares_setCells _ _ _ (Spares.refl _ _)) (fun b hb => .inr (by omega))⟩
        | false =>
          have Hp := Lib.hid qp
          clear qp
          simp only [show vcode true = 0 from rfl, show vcode false = 120 from rfl]
          have HV := Lib.hid (ruleL_bad (a := a) (m := m) (h := h) (p := p) (by rw [Hh.out]; simp))
          have hst := rule_stored (v := wo) (a' := .bool false) (b' := .string ⟨#[]⟩) (c' := .string ⟨#[]⟩) (d' := .string ⟨#[]⟩) (HSo.out.heap HR2.out (fun h => h))
          have HT := Lib.hid hst.1
          have HQ := Lib.hid hst.2
          clear hst
          have u1 : wrap64 120 = 120 := by simp [wrap64]
          have u2 : wrap64 240 = 240 := by simp [wrap64]
          have u3 : wrap64 360 = 360 := by simp [wrap64]
          clear y2 z1 z2
          have n1 : ((120 : Int) + 120) = 240 := rfl
          have n2 : ((240 : Int) + 120) = 360 := rfl
          have z0 : wrap64 0 = 0 := by simp [wrap64]
          simp only [Int.add_zero, Int.zero_add, n1, n2, u1, u2, u3, z0]
          go_wp2_with ((with_reducible show wpList _ _ _ (⟨none, .store 23 _ _, _, _, _, _⟩ :: _) _ _); refine wpList_store_mid rfl 23 (.tmp 2) (.tmp 39) rfl w.heap.size 0 #[.bool false, .string ⟨#[]⟩, .string ⟨#[]⟩, .string ⟨#[]⟩] rfl rfl HT.out HI.out (onesRule _ _ _ _) ?_)
          exact bodyPost_ret (v := .tuple #[.agg #[.bool false, .string ⟨#[]⟩, .string ⟨#[]⟩, .string ⟨#[]⟩], .int .i64 122]) (results_cell_two rfl _ _ w.heap.size 23 #[.bool false, .string ⟨#[]⟩, .string ⟨#[]⟩, .string ⟨#[]⟩] (0, 0) _ (.int .i64 122) rfl rfl HQ.out Try.underlying23 (by rfl) HI.out) rfl ⟨by rw [HV.out]; rfl, (HS2.out.trans HSo.out).trans' (F' := fun b => b = w.heap.size) (spares_setCells _ _ _ (Spares.refl _ _)) (fun b hb => .inr (by omega))⟩
    | false =>
      have Hm := Lib.hid qm
      clear qm
      cases qh : validF h.data.toList with
      | true =>
        have Hh := Lib.hid qh
        clear qh
        cases qp : validF p.data.toList with
        | true =>
          have Hp := Lib.hid qp
          clear qp
          simp only [show vcode true = 0 from rfl, show vcode false = 120 from rfl]
          have HV := Lib.hid (ruleL_bad (a := a) (m := m) (h := h) (p := p) (by rw [Hm.out]; rfl))
          have hst := rule_stored (v := wo) (a' := .bool false) (b' := .string ⟨#[]⟩) (c' := .string ⟨#[]⟩) (d' := .string ⟨#[]⟩) (HSo.out.heap HR2.out (fun h => h))
          have HT := Lib.hid hst.1
          have HQ := Lib.hid hst.2
          clear hst
          have u1 : wrap64 120 = 120 := by simp [wrap64]
          have u2 : wrap64 240 = 240 := by simp [wrap64]
          have u3 : wrap64 360 = 360 := by simp [wrap64]
          clear y2 z1 z2
          have n1 : ((120 : Int) + 120) = 240 := rfl
          have n2 : ((240 : Int) + 120) = 360 := rfl
          have z0 : wrap64 0 = 0 := by simp [wrap64]
          simp only [Int.add_zero, Int.zero_add, n1, n2, u1, u2, u3, z0]
          go_wp2_with ((with_reducible show wpList _ _ _ (⟨none, .store 23 _ _, _, _, _, _⟩ :: _) _ _); refine wpList_store_mid rfl 23 (.tmp 2) (.tmp 39) rfl w.heap.size 0 #[.bool false, .string ⟨#[]⟩, .string ⟨#[]⟩, .string ⟨#[]⟩] rfl rfl HT.out HI.out (onesRule _ _ _ _) ?_)
          exact bodyPost_ret (v := .tuple #[.agg #[.bool false, .string ⟨#[]⟩, .string ⟨#[]⟩, .string ⟨#[]⟩], .int .i64 122]) (results_cell_two rfl _ _ w.heap.size 23 #[.bool false, .string ⟨#[]⟩, .string ⟨#[]⟩, .string ⟨#[]⟩] (0, 0) _ (.int .i64 122) rfl rfl HQ.out Try.underlying23 (by rfl) HI.out) rfl ⟨by rw [HV.out]; rfl, (HS2.out.trans HSo.out).trans' (F' := fun b => b = w.heap.size) (spares_setCells _ _ _ (Spares.refl _ _)) (fun b hb => .inr (by omega))⟩
        | false =>
          have Hp := Lib.hid qp
          clear qp
          simp only [show vcode true = 0 from rfl, show vcode false = 120 from rfl]
          have HV := Lib.hid (ruleL_bad (a := a) (m := m) (h := h) (p := p) (by rw [Hm.out]; rfl))
          have hst := rule_stored (v := wo) (a' := .bool false) (b' := .string ⟨#[]⟩) (c' := .string ⟨#[]⟩) (d' := .string ⟨#[]⟩) (HSo.out.heap HR2.out (fun h => h))
          have HT := Lib.hid hst.1
          have HQ := Lib.hid hst.2
          clear hst
          have u1 : wrap64 120 = 120 := by simp [wrap64]
          have u2 : wrap64 240 = 240 := by simp [wrap64]
          have u3 : wrap64 360 = 360 := by simp [wrap64]
          clear y2 z1 z2
          have n1 : ((120 : Int) + 120) = 240 := rfl
          have n2 : ((240 : Int) + 120) = 360 := rfl
          have z0 : wrap64 0 = 0 := by simp [wrap64]
          simp only [Int.add_zero, Int.zero_add, n1, n2, u1, u2, u3, z0]
          go_wp2_with ((with_reducible show wpList _ _ _ (⟨none, .store 23 _ _, _, _, _, _⟩ :: _) _ _); refine wpList_store_mid rfl 23 (.tmp 2) (.tmp 39) rfl w.heap.size 0 #[.bool false, .string ⟨#[]⟩, .string ⟨#[]⟩, .string ⟨#[]⟩] rfl rfl HT.out HI.out (onesRule _ _ _ _) ?_)
          exact bodyPost_ret (v := .tuple #[.agg #[.bool false, .string ⟨#[]⟩, .string ⟨#[]⟩, .string ⟨#[]⟩], .int .i64 122]) (results_cell_two rfl _ _ w.heap.size 23 #[.bool false, .string ⟨#[]⟩, .string ⟨#[]⟩, .string ⟨#[]⟩] (0, 0) _ (.int .i64 122) rfl rfl HQ.out Try.underlying23 (by rfl) HI.out) rfl ⟨by rw [HV.out]; rfl, (HS2.out.trans HSo.out).trans' (F' := fun b => b = w.heap.size) (spares_setCells _ _ _ (Spares.refl _ _)) (fun b hb => .inr (by omega))⟩
      | false =>
        have Hh := Lib.hid qh
        clear qh
        cases qp : validF p.data.toList with
        | true =>
          have Hp := Lib.hid qp
          clear qp
          simp only [show vcode true = 0 from rfl, show vcode false = 120 from rfl]
          have HV := Lib.hid (ruleL_bad (a := a) (m := m) (h := h) (p := p) (by rw [Hm.out]; rfl))
          have hst := rule_stored (v := wo) (a' := .bool false) (b' := .string ⟨#[]⟩) (c' := .string ⟨#[]⟩) (d' := .string ⟨#[]⟩) (HSo.out.heap HR2.out (fun h => h))
          have HT := Lib.hid hst.1
          have HQ := Lib.hid hst.2
          clear hst
          have u1 : wrap64 120 = 120 := by simp [wrap64]
          have u2 : wrap64 240 = 240 := by simp [wrap64]
          have u3 : wrap64 360 = 360 := by simp [wrap64]
          clear y2 z1 z2
          have n1 : ((120 : Int) + 120) = 240 := rfl
          have n2 : ((240 : Int) + 120) = 360 := rfl
          have z0 : wrap64 0 = 0 := by simp [wrap64]
          simp only [Int.add_zero, Int.zero_add, n1, n2, u1, u2, u3, z0]
          go_wp2_with ((with_reducible show wpList _ _ _ (⟨none, .store 23 _ _, _, _, _, _⟩ :: _) _ _); refine wpList_store_mid rfl 23 (.tmp 2) (.tmp 39) rfl w.heap.size 0 #[.bool false, .string ⟨#[]⟩, .string ⟨#[]⟩, .string ⟨#[]⟩] rfl rfl HT.out HI.out (onesRule _ _ _ _) ?_)
          exact bodyPost_ret (v := .tuple #[.agg #[.bool false, .string ⟨#[]⟩, .string ⟨#[]⟩, .string ⟨#[]⟩], .int .i64 122]) (results_cell_two rfl _ _ w.heap.size 23 #[.bool false, .string ⟨#[]⟩, .string ⟨#[]⟩, .string ⟨#[]⟩] (0, 0) _ (.int .i64 122) rfl rfl HQ.out Try.underlying23 (by rfl) HI.out) rfl ⟨by rw [HV.out]; rfl, (HS2.out.trans HSo.out).trans' (F' := fun b => b = w.heap.size) (spares_setCells _ _ _ (Spares.refl _ _)) (fun b hb => .inr (by omega))⟩
        | false =>
          have Hp := Lib.hid qp
          clear qp
          simp only [show vcode false = 120 from rfl]
          have HV := Lib.hid (ruleL_bad (a := a) (m := m) (h := h) (p := p) (by rw [Hm.out]; rfl))
          have hst := rule_stored (v := wo) (a' := .bool false) (b' := .string ⟨#[]⟩) (c' := .string ⟨#[]⟩) (d' := .string ⟨#[]⟩) (HSo.out.heap HR2.out (fun h => h))
          have HT := Lib.hid hst.1
          have HQ := Lib.hid hst.2
          clear hst
          have u1 : wrap64 120 = 120 := by simp [wrap64]
          have u2 : wrap64 240 = 240 := by simp [wrap64]
          have u3 : wrap64 360 = 360 := by simp [wrap64]
          clear y2 z1 z2
          have n1 : ((120 : Int) + 120) = 240 := rfl
          have n2 : ((240 : Int) + 120) = 360 := rfl
          have z0 : wrap64 0 = 0 := by simp [wrap64]
          simp only [Int.add_zero, Int.zero_add, n1, n2, u1, u2, u3, z0]
          go_wp2_with ((with_reducible show wpList _ _ _ (⟨none, .store 23 _ _, _, _, _, _⟩ :: _) _ _); refine wpList_store_mid rfl 23 (.tmp 2) (.tmp 39) rfl w.heap.size 0 #[.bool false, .string ⟨#[]⟩, .string ⟨#[]⟩, .string ⟨#[]⟩] rfl rfl HT.out HI.out (onesRule _ _ _ _) ?_)
          exact bodyPost_ret (v := .tuple #[.agg #[.bool false, .string ⟨#[]⟩, .string ⟨#[]⟩, .string ⟨#[]⟩], .int .i64 122]) (results_cell_two rfl _ _ w.heap.size 23 #[.bool false, .string ⟨#[]⟩, .string ⟨#[]⟩, .string ⟨#[]⟩] (0, 0) _ (.int .i64 122) rfl rfl HQ.out Try.underlying23 (by rfl) HI.out) rfl ⟨by rw [HV.out]; rfl, (HS2.out.trans HSo.out).trans' (F' := fun b => b = w.heap.size) (spares_setCells _ _ _ (Spares.refl _ _)) (fun b hb => .inr (by omega))⟩
end Go.Proofs.Ythdolhfaiofogaa
namespace Go.Proofs.Ythdolhfaiofogaa
open Go.RowKit GlobMath

theorem refRule_any (s : ByteArray) (w : World) (hs : s.size ≤ 1000000) : Calls Try.prog 9 #[.string s] w (RulePost s w) := by
  by_cases h4 : (wordsL s).length = 4
  · obtain ⟨a, m, h, p, hL⟩ : ∃ a m h p, wordsL s = [a, m, h, p] := by
      match hl : wordsL s, h4 with
      | [a, m, h, p], _ => exact ⟨a, m, h, p, rfl⟩
    by_cases h1 : a.data.toList = allowB
    · exact refRule_allow s w hs a m h p hL h1
    · by_cases h2 : a.data.toList = denyB
      · exact refRule_deny s w hs a m h p hL h2
      · exact refRule_word s w hs a m h p hL (by unfold firstF; simp [h1, h2])
  · exact refRule_count s w hs h4
end Go.Proofs.Ythdolhfaiofogaa
namespace Go.Proofs.Ythdolhfaiofogaa
open Go.RowKit GlobMath

set_option maxHeartbeats 8000000 in
theorem parse_allow (s : ByteArray) (w : World) (hs : s.size ≤ 1000000) (a m h p : ByteArray) (hL : wordsL s = [a, m, h, p]) (hw : a.data.toList = allowB) (hmz : m.size ≤ 1000000) (hhz : h.size ≤ 1000000) (hpz : p.size ≤ 1000000) : Calls Try.prog 8 #[.string s] w (RulePost s w) := by
  have HI := Lib.hid infoRule
  have HW : Hid (firstF a = true) := Lib.hid (by unfold firstF; rw [hw]; rfl)
  have HA : Hid ((a.data.toList == allowB) = true) := Lib.hid (by rw [hw]; rfl)
  unfold RulePost
  have cW := fun w => words_any s w hs
  unfold WordsPost at cW
  rw [hL]
  simp only [hL] at cW
  have y1 : (a.toList == [97, 108, 108, 111, 119]) = true := by rw [Lib.toList_data, hw]; rfl
  have y2 : (a.toList == [100, 101, 110, 121]) = false := by rw [Lib.toList_data, hw]; rfl
  clear hL hw
  obtain ⟨v1, hv1⟩ : ∃ v1, w.alloc (.cells #[.bool false, .string ⟨#[]⟩, .string ⟨#[]⟩, .string ⟨#[]⟩] 23) = v1 := ⟨_, rfl⟩
  have hq : v1.heap[w.heap.size]? = some (.cells #[.bool false, .string ⟨#[]⟩, .string ⟨#[]⟩, .string ⟨#[]⟩] 23 (0, 0)) := by rw [← hv1]; exact heap_alloc_new w _
  have hs1 : Spares nowhere w v1 := by rw [← hv1]; exact (Spares.refl _ w).alloc _
  have hz1 : v1.heap.size = w.heap.size + 1 := by rw [← hv1]; simp
  have HV1 := Lib.hid hv1
  clear hv1
  go_enter Try.func8, Try.ntmps8
  go_wp2_with fail
  change Calls _ _ _ (w.alloc (.cells #[.bool false, .string ⟨#[]⟩, .string ⟨#[]⟩, .string ⟨#[]⟩] 23)) _
  rw [HV1.out]
  refine (cW v1).mono ?_
  rintro e v2 ⟨v, rfl, hr, hb⟩
  have HR2 : Hid (v2.heap[w.heap.size]? = some (.cells #[.bool false, .string ⟨#[]⟩, .string ⟨#[]⟩, .string ⟨#[]⟩] 23 (0, 0))) := Lib.hid ((hb.block _ (by omega)).trans hq)
  have HS2 : Hid (Spares nowhere w v2) := Lib.hid (hs1.trans' (Below.spares (F := nowhere) hb (fun k hk => .inr hk)) (fun _ h => by cases h))
  rcases hr.shape with ⟨_, hl0⟩ | ⟨g, c, rfl, _, hg, hc, hcells⟩
  · cases hl0
  · have c0 : v2.cell? ⟨g, 0, none⟩ = some (.string a) := hcells 0 (Nat.zero_lt_succ _)
    have HC0 := Lib.hid c0
    have HC1 : Hid (v2.cell? ⟨g, 1, none⟩ = some (.string m)) := Lib.hid (hcells 1 (by simp))
    have HC2 : Hid (v2.cell? ⟨g, 2, none⟩ = some (.string h)) := Lib.hid (hcells 2 (by simp))
    have HC3 : Hid (v2.cell? ⟨g, 3, none⟩ = some (.string p)) := Lib.hid (hcells 3 (by simp))
    have HG := Lib.hid hg
    change 4 ≤ c at hc
    clear hr hcells hq hs1 hz1 hb cW hg
    go_wp2
    go_loopw [28] (fun i wr => ∃ k : Nat, k ≤ 3 ∧ i = .int .i64 k ∧ Hid ((1 ≤ k → validF m.data.toList = true) ∧ (2 ≤ k → validF h.data.toList = true) ∧ (3 ≤ k → validF p.data.toList = true)) ∧ Hid (Spares nowhere v2 wr)) (fun i _ => 3 - (intOf i).toNat)
    case atStart => exact ⟨0, by omega, rfl, Lib.hid ⟨fun h => absurd h (by omega), fun h => absurd h (by omega), fun h => absurd h (by omega)⟩, Lib.hid (Spares.refl _ _)⟩
    case round =>
      obtain ⟨k, hk, rfl, HU, HS⟩ := hrel
      rcases (show k = 0 ∨ k = 1 ∨ k = 2 ∨ k = 3 by omega) with rfl | rfl | rfl | rfl
      · have ck : wr.cell? ⟨g, 1, none⟩ = some (.string m) := (HS.out.cell (p := ⟨g, 1, none⟩) HG.out (fun h => h)).trans HC1.out
        cases hv : validF m.data.toList with
        | true =>
          have HF := Lib.hid hv
          clear hv
          go_wp2_with fail
          refine (valid_any m wr (by omega)).mono ?_
          rintro e w3 ⟨rfl, hb3⟩
          rw [show (if validF m.data.toList = true then (0 : Int) else 120) = 0 from by rw [if_pos HF.out]]
          have HS3 := Lib.hid (HS.out.trans' (Below.spares (F := nowhere) hb3 (fun k hk => .inr hk)) (fun _ h => by cases h))
          clear hb3
          go_wp2
          go_roundw
          case rel => exact ⟨1, by omega, by go_num, Lib.hid ⟨fun _ => by first | exact HF.out | trivial, fun h => absurd h (by omega), fun h => absurd h (by omega)⟩, HS3⟩
          case measure => simp [intOf]
        | false =>
          have HF := Lib.hid hv
          have HV := Lib.hid (ruleL_bad (a := a) (m := m) (h := h) (p := p) (by rw [hv]; rfl))
          clear hv
          go_wp2_with fail
          refine (valid_any m wr (by omega)).mono ?_
          rintro e w3 ⟨rfl, hb3⟩
          rw [show (if validF m.data.toList = true then (0 : Int) else 120) = 120 from by rw [if_neg (by rw [HF.out]; simp)]]
          have HS3 := Lib.hid (HS.out.trans' (Below.spares (F := nowhere) hb3 (fun k hk => .inr hk)) (fun _ h => by cases h))
          have hst := rule_stored (a' := .bool false) (b' := .string ⟨#[]⟩) (c' := .string ⟨#[]⟩) (d' := .string ⟨#[]⟩) (HS3.out.heap HR2.out (fun h => h))
          have HT := Lib.hid hst.1
          have HQ := Lib.hid hst.2
          clear hst hb3
          go_wp2_with ((with_reducible show wpList _ _ _ (⟨none, .store 23 _ _, _, _, _, _⟩ :: _) _ _); refine wpList_store_mid rfl 23 (.tmp 2) (.tmp 35) rfl w.heap.size 0 #[.bool false, .string ⟨#[]⟩, .string ⟨#[]⟩, .string ⟨#[]⟩] rfl rfl HT.out HI.out (onesRule _ _ _ _) ?_)
          exact bodyPost_ret (v := .tuple #[.agg #[.bool false, .string ⟨#[]⟩, .string ⟨#[]⟩, .string ⟨#[]⟩], .int .i64 122]) (results_cell_two rfl _ _ w.heap.size 23 #[.bool false, .string ⟨#[]⟩, .string ⟨#[]⟩, .string ⟨#[]⟩] (0, 0) _ (.int .i64 122) rfl rfl HQ.out Try.underlying23 (by rfl) HI.out) rfl ⟨by rw [HV.out]; rfl, (HS2.out.trans HS3.out).trans' (F' := fun b => b = w.heap.size) (spares_setCells _ _ _ (Spares.refl _ _)) (fun b hb => .inr (by omega))⟩
      · have ck : wr.cell? ⟨g, 2, none⟩ = some (.string h) := (HS.out.cell (p := ⟨g, 2, none⟩) HG.out (fun h => h)).trans HC2.out
        cases hv : validF h.data.toList with
        | true =>
          have HF := Lib.hid hv
          clear hv
          go_wp2_with fail
          refine (valid_any h wr (by omega)).mono ?_
          rintro e w3 ⟨rfl, hb3⟩
          rw [show (if validF h.data.toList = true then (0 : Int) else 120) = 0 from by rw [if_pos HF.out]]
          have HS3 := Lib.hid (HS.out.trans' (Below.spares (F := nowhere) hb3 (fun k hk => .inr hk)) (fun _ h => by cases h))
          clear hb3
          go_wp2
          go_roundw
          case rel => exact ⟨2, by omega, by go_num, Lib.hid ⟨fun _ => HU.out.1 (by omega), fun _ => by first | exact HF.out | trivial, fun h => absurd h (by omega)⟩, HS3⟩
          case measure => simp [intOf]
        | false =>
          have HF := Lib.hid hv
          have HV := Lib.hid (ruleL_bad (a := a) (m := m) (h := h) (p := p) (by rw [hv]; simp))
          clear hv
          go_wp2_with fail
          refine (valid_any h wr (by omega)).mono ?_
          rintro e w3 ⟨rfl, hb3⟩
          rw [show (if validF h.data.toList = true then (0 : Int) else 120) = 120 from by rw [if_neg (by rw [HF.out]; simp)]]
          have HS3 := Lib.hid (HS.out.trans' (Below.spares (F := nowhere) hb3 (fun k hk => .inr hk)) (fun _ h => by cases h))
          have hst := rule_stored (a' := .bool false) (b' := .string ⟨#[]⟩) (c' := .string ⟨#[]⟩) (d' := .string ⟨#[]⟩) (HS3.out.heap HR2.out (fun h => h))
          have HT := Lib.hid hst.1
          have HQ := Lib.hid hst.2
          clear hst hb3
          go_wp2_with ((with_reducible show wpList _ _ _ (⟨none, .store 23 _ _, _, _, _, _⟩ :: _) _ _); refine wpList_store_mid rfl 23 (.tmp 2) (.tmp 35) rfl w.heap.size 0 #[.bool false, .string ⟨#[]⟩, .string ⟨#[]⟩, .string ⟨#[]⟩] rfl rfl HT.out HI.out (onesRule _ _ _ _) ?_)
          exact bodyPost_ret (v := .tuple #[.agg #[.bool false, .string ⟨#[]⟩, .string ⟨#[]⟩, .string ⟨#[]⟩], .int .i64 122]) (results_cell_two rfl _ _ w.heap.size 23 #[.bool false, .string ⟨#[]⟩, .string ⟨#[]⟩, .string ⟨#[]⟩] (0, 0) _ (.int .i64 122) rfl rfl HQ.out Try.underlying23 (by rfl) HI.out) rfl ⟨by rw [HV.out]; rfl, (HS2.out.trans HS3.out).trans' (F' := fun b => b = w.heap.size) (spares_setCells _ _ _ (Spares.refl _ _)) (fun b hb => .inr (by omega))⟩
      · have ck : wr.cell? ⟨g, 3, none⟩ = some (.string p) := (HS.out.cell (p := ⟨g, 3, none⟩) HG.out (fun h => h)).trans HC3.out
        cases hv : validF p.data.toList with
        | true =>
          have HF := Lib.hid hv
          clear hv
          go_wp2_with fail
          refine (valid_any p wr (by omega)).mono ?_
          rintro e w3 ⟨rfl, hb3⟩
          rw [show (if validF p.data.toList = true then (0 : Int) else 120) = 0 from by rw [if_pos HF.out]]
          have HS3 := Lib.hid (HS.out.trans' (Below.spares (F := nowhere) hb3 (fun k hk => .inr hk)) (fun _ h => by cases h))
          clear hb3
          go_wp2
          go_roundw
          case rel => exact ⟨3, by omega, by go_num, Lib.hid ⟨fun _ => HU.out.1 (by omega), fun _ => HU.out.2.1 (by omega), fun _ => by first | exact HF.out | trivial⟩, HS3⟩
          case measure => simp [intOf]
        | false =>
          have HF := Lib.hid hv
          have HV := Lib.hid (ruleL_bad (a := a) (m := m) (h := h) (p := p) (by rw [hv]; simp))
          clear hv
          go_wp2_with fail
          refine (valid_any p wr (by omega)).mono ?_
          rintro e w3 ⟨rfl, hb3⟩
          rw [show (if validF p.data.toList = true then (0 : Int) else 120) = 120 from by rw [if_neg (by rw [HF.out]; simp)]]
          have HS3 := Lib.hid (HS.out.trans' (Below.spares (F := nowhere) hb3 (fun k hk => .inr hk)) (fun _ h => by cases h))
          have hst := rule_stored (a' := .bool false) (b' := .string ⟨#[]⟩) (c' := .string ⟨#[]⟩) (d' := .string ⟨#[]⟩) (HS3.out.heap HR2.out (fun h => h))
          have HT := Lib.hid hst.1
          have HQ := Lib.hid hst.2
          clear hst hb3
          go_wp2_with ((with_reducible show wpList _ _ _ (⟨none, .store 23 _ _, _, _, _, _⟩ :: _) _ _); refine wpList_store_mid rfl 23 (.tmp 2) (.tmp 35) rfl w.heap.size 0 #[.bool false, .string ⟨#[]⟩, .string ⟨#[]⟩, .string ⟨#[]⟩] rfl rfl HT.out HI.out (onesRule _ _ _ _) ?_)
          exact bodyPost_ret (v := .tuple #[.agg #[.bool false, .string ⟨#[]⟩, .string ⟨#[]⟩, .string ⟨#[]⟩], .int .i64 122]) (results_cell_two rfl _ _ w.heap.size 23 #[.bool false, .string ⟨#[]⟩, .string ⟨#[]⟩, .string ⟨#[]⟩] (0, 0) _ (.int .i64 122) rfl rfl HQ.out Try.underlying23 (by rfl) HI.out) rfl ⟨by rw [HV.out]; rfl, (HS2.out.trans HS3.out).trans' (F' := fun b => b = w.heap.size) (spares_setCells _ _ _ (Spares.refl _ _)) (fun b hb => .inr (by omega))⟩
      · have HV := Lib.hid (ruleL_good HW.out (HU.out.1 (by omega)) (HU.out.2.1 (by omega)) (HU.out.2.2 (by omega)))
        rw [HA.out] at HV
        have e0 : wr.cell? ⟨g, 0, none⟩ = some (.string a) := (HS.out.cell (p := ⟨g, 0, none⟩) HG.out (fun h => h)).trans HC0.out
        have e1 : wr.cell? ⟨g, 1, none⟩ = some (.string m) := (HS.out.cell (p := ⟨g, 1, none⟩) HG.out (fun h => h)).trans HC1.out
        have e2 : wr.cell? ⟨g, 2, none⟩ = some (.string h) := (HS.out.cell (p := ⟨g, 2, none⟩) HG.out (fun h => h)).trans HC2.out
        have e3 : wr.cell? ⟨g, 3, none⟩ = some (.string p) := (HS.out.cell (p := ⟨g, 3, none⟩) HG.out (fun h => h)).trans HC3.out
        have hst := rule_stored (v := wr.drew) (a' := .bool true) (b' := .string m) (c' := .string h) (d' := .string p) (HS.out.drew.heap HR2.out (fun h => h))
        have HT := Lib.hid hst.1
        have HQ := Lib.hid hst.2
        have HS9 := Lib.hid HS.out.drew
        clear hst c0
        go_wp2
        go_still_tail 14, (by kernel_rfl)
        change wpList _ _ _ _ _ wr.drew
        go_wp2_with ((with_reducible show wpList _ _ _ (⟨none, .store 23 _ _, _, _, _, _⟩ :: _) _ _); refine wpList_store_mid rfl 23 (.tmp 2) (.tmp 50) rfl w.heap.size 0 #[.bool true, .string m, .string h, .string p] rfl rfl HT.out HI.out (onesRule _ _ _ _) ?_)
        exact bodyPost_ret (v := .tuple #[.agg #[.bool true, .string m, .string h, .string p], .int .i64 0]) (results_cell_two rfl _ _ w.heap.size 23 #[.bool true, .string m, .string h, .string p] (0, 0) _ (.int .i64 0) rfl rfl HQ.out Try.underlying23 (by rfl) HI.out) rfl ⟨by rw [HV.out]; rfl, (HS2.out.trans HS9.out).trans' (F' := fun b => b = w.heap.size) (spares_setCells _ _ _ (Spares.refl _ _)) (fun b hb => .inr (by omega))⟩
set_option maxHeartbeats 8000000 in
theorem parse_deny (s : ByteArray) (w : World) (hs : s.size ≤ 1000000) (a m h p : ByteArray) (hL : wordsL s = [a, m, h, p]) (hw : a.data.toList = denyB) (hmz : m.size ≤ 1000000) (hhz : h.size ≤ 1000000) (hpz : p.size ≤ 1000000) : Calls Try.prog 8 #[.string s] w (RulePost s w) := by
  have HI := Lib.hid infoRule
  have HW : Hid (firstF a = true) := Lib.hid (by unfold firstF; rw [hw]; rfl)
  have HA : Hid ((a.data.toList == allowB) = false) := Lib.hid (by rw [hw]; rfl)
  unfold RulePost
  have cW := fun w => words_any s w hs
  unfold WordsPost at cW
  rw [hL]
  simp only [hL] at cW
  have y1 : (a.toList == [97, 108, 108, 111, 119]) = false := by rw [Lib.toList_data, hw]; rfl
  have y2 : (a.toList == [100, 101, 110, 121]) = true := by rw [Lib.toList_data, hw]; rfl
  clear hL hw
  obtain ⟨v1, hv1⟩ : ∃ v1, w.alloc (.cells #[.bool false, .string ⟨#[]⟩, .string ⟨#[]⟩, .string ⟨#[]⟩] 23) = v1 := ⟨_, rfl⟩
  have hq : v1.heap[w.heap.size]? = some (.cells #[.bool false, .string ⟨#[]⟩, .string ⟨#[]⟩, .string ⟨#[]⟩] 23 (0, 0)) := by rw [← hv1]; exact heap_alloc_new w _
  have hs1 : Spares nowhere w v1 := by rw [← hv1]; exact (Spares.refl _ w).alloc _
  have hz1 : v1.heap.size = w.heap.size + 1 := by rw [← hv1]; simp
  have HV1 := Lib.hid hv1
  clear hv1
  go_enter Try.func8, Try.ntmps8
  go_wp2_with fail
  change Calls _ _ _ (w.alloc (.cells #[.bool false, .string ⟨#[]⟩, .string ⟨#[]⟩, .string ⟨#[]⟩] 23)) _
  rw [HV1.out]
  refine (cW v1).mono ?_
  rintro e v2 ⟨v, rfl, hr, hb⟩
  have HR2 : Hid (v2.heap[w.heap.size]? = some (.cells #[.bool false, .string ⟨#[]⟩, .string ⟨#[]⟩, .string ⟨#[]⟩] 23 (0, 0))) := Lib.hid ((hb.block _ (by omega)).trans hq)
  have HS2 : Hid (Spares nowhere w v2) := Lib.hid (hs1.trans' (Below.spares (F := nowhere) hb (fun k hk => .inr hk)) (fun _ h => by cases h))
  rcases hr.shape with ⟨_, hl0⟩ | ⟨g, c, rfl, _, hg, hc, hcells⟩
  · cases hl0
  · have c0 : v2.cell? ⟨g, 0, none⟩ = some (.string a) := hcells 0 (Nat.zero_lt_succ _)
    have HC0 := Lib.hid c0
    have HC1 : Hid (v2.cell? ⟨g, 1, none⟩ = some (.string m)) := Lib.hid (hcells 1 (by simp))
    have HC2 : Hid (v2.cell? ⟨g, 2, none⟩ = some (.string h)) := Lib.hid (hcells 2 (by simp))
    have HC3 : Hid (v2.cell? ⟨g, 3, none⟩ = some (.string p)) := Lib.hid (hcells 3 (by simp))
    have HG := Lib.hid hg
    change 4 ≤ c at hc
    clear hr hcells hq hs1 hz1 hb cW hg
    go_wp2
    go_loopw [28] (fun i wr => ∃ k : Nat, k ≤ 3 ∧ i = .int .i64 k ∧ Hid ((1 ≤ k → validF m.data.toList = true) ∧ (2 ≤ k → validF h.data.toList = true) ∧ (3 ≤ k → validF p.data.toList = true)) ∧ Hid (Spares nowhere v2 wr)) (fun i _ => 3 - (intOf i).toNat)
    case atStart => exact ⟨0, by omega, rfl, Lib.hid ⟨fun h => absurd h (by omega), fun h => absurd h (by omega), fun h => absurd h (by omega)⟩, Lib.hid (Spares.refl _ _)⟩
    case round =>
      obtain ⟨k, hk, rfl, HU, HS⟩ := hrel
      rcases (show k = 0 ∨ k = 1 ∨ k = 2 ∨ k = 3 by omega) with rfl | rfl | rfl | rfl
      · have ck : wr.cell? ⟨g, 1, none⟩ = some (.string m) := (HS.out.cell (p := ⟨g, 1, none⟩) HG.out (fun h => h)).trans HC1.out
        cases hv : validF m.data.toList with
        | true =>
          have HF := Lib.hid hv
          clear hv
          go_wp2_with fail
          refine (valid_any m wr (by omega)).mono ?_
          rintro e w3 ⟨rfl, hb3⟩
          rw [show (if validF m.data.toList = true then (0 : Int) else 120) = 0 from by rw [if_pos HF.out]]
          have HS3 := Lib.hid (HS.out.trans' (Below.spares (F := nowhere) hb3 (fun k hk => .inr hk)) (fun _ h => by cases h))
          clear hb3
          go_wp2
          go_roundw
          case rel => exact ⟨1, by omega, by go_num, Lib.hid ⟨fun _ => by first | exact HF.out | trivial, fun h => absurd h (by omega), fun h => absurd h (by omega)⟩, HS3⟩
          case measure => simp [intOf]
        | false =>
          have HF := Lib.hid hv
          have HV := Lib.hid (ruleL_bad (a := a) (m := m) (h := h) (p := p) (by rw [hv]; rfl))
          clear hv
          go_wp2_with fail
          refine (valid_any m wr (by omega)).mono ?_
          rintro e w3 ⟨rfl, hb3⟩
          rw [show (if validF m.data.toList = true then (0 : Int) else 120) = 120 from by rw [if_neg (by rw [HF.out]; simp)]]
          have HS3 := Lib.hid (HS.out.trans' (Below.spares (F := nowhere) hb3 (fun k hk => .inr hk)) (fun _ h => by cases h))
          have hst := rule_stored (a' := .bool false) (b' := .string ⟨#[]⟩) (c' := .string ⟨#[]⟩) (d' := .string ⟨#[]⟩) (HS3.out.heap HR2.out (fun h => h))
          have HT := Lib.hid hst.1
          have HQ := Lib.hid hst.2
          clear hst hb3
          go_wp2_with ((with_reducible show wpList _ _ _ (⟨none, .store 23 _ _, _, _, _, _⟩ :: _) _ _); refine wpList_store_mid rfl 23 (.tmp 2) (.tmp 35) rfl w.heap.size 0 #[.bool false, .string ⟨#[]⟩, .string ⟨#[]⟩, .string ⟨#[]⟩] rfl rfl HT.out HI.out (onesRule _ _ _ _) ?_)
          exact bodyPost_ret (v := .tuple #[.agg #[.bool false, .string ⟨#[]⟩, .string ⟨#[]⟩, .string ⟨#[]⟩], .int .i64 122]) (results_cell_two rfl _ _ w.heap.size 23 #[.bool false, .string ⟨#[]⟩, .string ⟨#[]⟩, .string ⟨#[]⟩] (0, 0) _ (.int .i64 122) rfl rfl HQ.out Try.underlying23 (by rfl) HI.out) rfl ⟨by rw [HV.out]; rfl, (HS2.out.trans HS3.out).trans' (F' := fun b => b = w.heap.size) (spares_setCells _ _ _ (Spares.refl _ _)) (fun b hb => .inr (by omega))⟩
      · have ck : wr.cell? ⟨g, 2, none⟩ = some (.string h) := (HS.out.cell (p := ⟨g, 2, none⟩) HG.out (fun h => h)).trans HC2.out
        cases hv : validF h.data.toList with
        | true =>
          have HF := Lib.hid hv
          clear hv
          go_wp2_with fail
          refine (valid_any h wr (by omega)).mono ?_
          rintro e w3 ⟨rfl, hb3⟩
          rw [show (if validF h.data.toList = true then (0 : Int) else 120) = 0 from by rw [if_pos HF.out]]
          have HS3 := Lib.hid (HS.out.trans' (Below.spares (F := nowhere) hb3 (fun k hk => .inr hk)) (fun _ h => by cases h))
          clear hb3
          go_wp2
          go_roundw
          case rel => exact ⟨2, by omega, by go_num, Lib.hid ⟨fun _ => HU.out.1 (by omega), fun _ => by first | exact HF.out | trivial, fun h => absurd h (by omega)⟩, HS3⟩
          case measure => simp [intOf]
        | false =>
          have HF := Lib.hid hv
          have HV := Lib.hid (ruleL_bad (a := a) (m := m) (h := h) (p := p) (by rw [hv]; simp))
          clear hv
          go_wp2_with fail
          refine (valid_any h wr (by omega)).mono ?_
          rintro e w3 ⟨rfl, hb3⟩
          rw [show (if validF h.data.toList = true then (0 : Int) else 120) = 120 from by rw [if_neg (by rw [HF.out]; simp)]]
          have HS3 := Lib.hid (HS.out.trans' (Below.spares (F := nowhere) hb3 (fun k hk => .inr hk)) (fun _ h => by cases h))
          have hst := rule_stored (a' := .bool false) (b' := .string ⟨#[]⟩) (c' := .string ⟨#[]⟩) (d' := .string ⟨#[]⟩) (HS3.out.heap HR2.out (fun h => h))
          have HT := Lib.hid hst.1
          have HQ := Lib.hid hst.2
          clear hst hb3
          go_wp2_with ((with_reducible show wpList _ _ _ (⟨none, .store 23 _ _, _, _, _, _⟩ :: _) _ _); refine wpList_store_mid rfl 23 (.tmp 2) (.tmp 35) rfl w.heap.size 0 #[.bool false, .string ⟨#[]⟩, .string ⟨#[]⟩, .string ⟨#[]⟩] rfl rfl HT.out HI.out (onesRule _ _ _ _) ?_)
          exact bodyPost_ret (v := .tuple #[.agg #[.bool false, .string ⟨#[]⟩, .string ⟨#[]⟩, .string ⟨#[]⟩], .int .i64 122]) (results_cell_two rfl _ _ w.heap.size 23 #[.bool false, .string ⟨#[]⟩, .string ⟨#[]⟩, .string ⟨#[]⟩] (0, 0) _ (.int .i64 122) rfl rfl HQ.out Try.underlying23 (by rfl) HI.out) rfl ⟨by rw [HV.out]; rfl, (HS2.out.trans HS3.out).trans' (F' := fun b => b = w.heap.size) (spares_setCells _ _ _ (Spares.refl _ _)) (fun b hb => .inr (by omega))⟩
      · have ck : wr.cell? ⟨g, 3, none⟩ = some (.string p) := (HS.out.cell (p := ⟨g, 3, none⟩) HG.out (fun h => h)).trans HC3.out
        cases hv : validF p.data.toList with
        | true =>
          have HF := Lib.hid hv
          clear hv
          go_wp2_with fail
          refine (valid_any p wr (by omega)).mono ?_
          rintro e w3 ⟨rfl, hb3⟩
          rw [show (if validF p.data.toList = true then (0 : Int) else 120) = 0 from by rw [if_pos HF.out]]
          have HS3 := Lib.hid (HS.out.trans' (Below.spares (F := nowhere) hb3 (fun k hk => .inr hk)) (fun _ h => by cases h))
          clear hb3
          go_wp2
          go_roundw
          case rel => exact ⟨3, by omega, by go_num, Lib.hid ⟨fun _ => HU.out.1 (by omega), fun _ => HU.out.2.1 (by omega), fun _ => by first | exact HF.out | trivial⟩, HS3⟩
          case measure => simp [intOf]
        | false =>
          have HF := Lib.hid hv
          have HV := Lib.hid (ruleL_bad (a := a) (m := m) (h := h) (p := p) (by rw [hv]; simp))
          clear hv
          go_wp2_with fail
          refine (valid_any p wr (by omega)).mono ?_
          rintro e w3 ⟨rfl, hb3⟩
          rw [show (if validF p.data.toList = true then (0 : Int) else 120) = 120 from by rw [if_neg (by rw [HF.out]; simp)]]
          have HS3 := Lib.hid (HS.out.trans' (Below.spares (F := nowhere) hb3 (fun k hk => .inr hk)) (fun _ h => by cases h))
          have hst := rule_stored (a' := .bool false) (b' := .string ⟨#[]⟩) (c' := .string ⟨#[]⟩) (d' := .string ⟨#[]⟩) (HS3.out.heap HR2.out (fun h => h))
          have HT := Lib.hid hst.1
          have HQ := Lib.hid hst.2
          clear hst hb3
          go_wp2_with ((with_reducible show wpList _ _ _ (⟨none, .store 23 _ _, _, _, _, _⟩ :: _) _ _); refine wpList_store_mid rfl 23 (.tmp 2) (.tmp 35) rfl w.heap.size 0 #[.bool false, .string ⟨#[]⟩, .string ⟨#[]⟩, .string ⟨#[]⟩] rfl rfl HT.out HI.out (onesRule _ _ _ _) ?_)
          exact bodyPost_ret (v := .tuple #[.agg #[.bool false, .string ⟨#[]⟩, .string ⟨#[]⟩, .string ⟨#[]⟩], .int .i64 122]) (results_cell_two rfl _ _ w.heap.size 23 #[.bool false, .string ⟨#[]⟩, .string ⟨#[]⟩, .string ⟨#[]⟩] (0, 0) _ (.int .i64 122) rfl rfl HQ.out Try.underlying23 (by rfl) HI.out) rfl ⟨by rw [HV.out]; rfl, (HS2.out.trans HS3.out).trans' (F' := fun b => b = w.heap.size) (spares_setCells _ _ _ (Spares.refl _ _)) (fun b hb => .inr (by omega))⟩
      · have HV := Lib.hid (ruleL_good HW.out (HU.out.1 (by omega)) (HU.out.2.1 (by omega)) (HU.out.2.2 (by omega)))
        rw [HA.out] at HV
        have e0 : wr.cell? ⟨g, 0, none⟩ = some (.string a) := (HS.out.cell (p := ⟨g, 0, none⟩) HG.out (fun h => h)).trans HC0.out
        have e1 : wr.cell? ⟨g, 1, none⟩ = some (.string m) := (HS.out.cell (p := ⟨g, 1, none⟩) HG.out (fun h => h)).trans HC1.out
        have e2 : wr.cell? ⟨g, 2, none⟩ = some (.string h) := (HS.out.cell (p := ⟨g, 2, none⟩) HG.out (fun h => h)).trans HC2.out
        have e3 : wr.cell? ⟨g, 3, none⟩ = some (.string p) := (HS.out.cell (p := ⟨g, 3, none⟩) HG.out (fun h => h)).trans HC3.out
        have hst := rule_stored (v := wr.drew) (a' := .bool false) (b' := .string m) (c' := .string h) (d' := .string p) (HS.out.drew.heap HR2.out (fun h => h))
        have HT := Lib.hid hst.1
        have HQ := Lib.hid hst.2
        have HS9 := Lib.hid HS.out.drew
        clear hst c0
        go_wp2
        go_still_tail 14, (by kernel_rfl)
        change wpList _ _ _ _ _ wr.drew
        go_wp2_with ((with_reducible show wpList _ _ _ (⟨none, .store 23 _ _, _, _, _, _⟩ :: _) _ _); refine wpList_store_mid rfl 23 (.tmp 2) (.tmp 50) rfl w.heap.size 0 #[.bool false, .string m, .string h, .string p] rfl rfl HT.out HI.out (onesRule _ _ _ _) ?_)
        exact bodyPost_ret (v := .tuple #[.agg #[.bool false, .string m, .string h, .string p], .int .i64 0]) (results_cell_two rfl _ _ w.heap.size 23 #[.bool false, .string m, .string h, .string p] (0, 0) _ (.int .i64 0) rfl rfl HQ.out Try.underlying23 (by rfl) HI.out) rfl ⟨by rw [HV.out]; rfl, (HS2.out.trans HS9.out).trans' (F' := fun b => b = w.heap.size) (spares_setCells _ _ _ (Spares.refl _ _)) (fun b hb => .inr (by omega))⟩
end Go.Proofs.Ythdolhfaiofogaa
namespace Go.Proofs.Ythdolhfaiofogaa
open Go.RowKit GlobMath

theorem words_size {s x : ByteArray} (h : x ∈ wordsL s) : x.size ≤ s.size := size_cut h
theorem rule_any (s : ByteArray) (w : World) (hs : s.size ≤ 1000000) : Calls Try.prog 8 #[.string s] w (RulePost s w) := by
  by_cases h4 : (wordsL s).length = 4
  · obtain ⟨a, m, h, p, hL⟩ : ∃ a m h p, wordsL s = [a, m, h, p] := by
      match hl : wordsL s, h4 with
      | [a, m, h, p], _ => exact ⟨a, m, h, p, rfl⟩
    have hz : ∀ x ∈ [a, m, h, p], x.size ≤ 1000000 := fun x hx => Nat.le_trans (words_size (by rw [hL]; exact hx)) hs
    by_cases h1 : a.data.toList = allowB
    · exact parse_allow s w hs a m h p hL h1 (hz m (by simp)) (hz h (by simp)) (hz p (by simp))
    · by_cases h2 : a.data.toList = denyB
      · exact parse_deny s w hs a m h p hL h2 (hz m (by simp)) (hz h (by simp)) (hz p (by simp))
      · exact parse_word s w hs a m h p hL (by unfold firstF; simp [h1, h2])
  · exact parse_count s w hs h4
end Go.Proofs.Ythdolhfaiofogaa
